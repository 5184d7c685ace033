/-
  The draws of chapter 11: rows, or what is none, and numbers.
-/
import Derived.Test.YtfcjhelhhefkkaaGA
import Derived.Test.YtfcjhelhhefkkaaS4
namespace Go.Proofs.Ytfcjhelhhefkkaa
open Go.RowKit

/-- While a row is drawn in world w: the reader at g, read q times. -/
structure RW (w : World) (g : Nat) (wx : World) (q : Nat) : Prop where
  rd : Rd wx g q
  gr : w.grownBy wx (some g)
theorem RW.pick {w wx w' : World} {g q q' : Nat} (h : RW w g wx q) (hr : Rd w' g q') (hg : wx.grownBy w' (some g)) : RW w g w' q' := ⟨hr, h.gr.trans hg⟩
theorem RW.below {w wx w' : World} {g q : Nat} (h : RW w g wx q) (hb : Below wx.heap.size wx w') : RW w g w' q := ⟨h.rd.below hb (Nat.le_refl _), h.gr.trans (grown_of_below _ hb)⟩
theorem RW.alloc {w wx : World} {g q : Nat} (h : RW w g wx q) (o : Obj) : RW w g (wx.alloc o) q := h.below ((Below.refl _ _).alloc (Nat.le_refl _) _)
theorem RW.start {w : World} {g q : Nat} (h : Rd w g q) : RW w g w q := ⟨h, World.grownBy.refl w _⟩
theorem RW.glt {w wx : World} {g q : Nat} (h : RW w g wx q) : g < wx.heap.size := h.rd.lt
/-- One of a list of texts. -/
theorem pickL (l : List ByteArray) (m k : Nat) (hk : k < l.length) (hm : ∀ x ∈ l, x.size ≤ m) : ∃ y : ByteArray, (l.map Value.string).toArray[k]? = some (.string y) ∧ y.size ≤ m :=
  ⟨l[k], by simp [hk], hm _ (List.getElem_mem hk)⟩

/-- A text is drawn. -/
def RetD (w : World) (g p z : Nat) (e : Ending) (w' : World) : Prop := ∃ s q, e = .returned (.string s) ∧ s.size ≤ 63 ∧ q ≤ p + z ∧ RW w g w' q

set_option maxRecDepth 100000 in
set_option maxHeartbeats 8000000 in
theorem digits_any (g p : Nat) (n : Int) (w : World) (h : Rd w g p) (hp : p ≤ 1000) (hn : 1 ≤ n ∧ n ≤ 1000) :
    Calls Try.prog 52 #[.pointer (some ⟨g, 0, none⟩), .int .i64 n] w (RetD w g p 20) := by
  have hPk := fun W q (hr : Rd W g q) (hq : q ≤ 5000) (m : Int) (hm : 1 ≤ m) (hm' : m ≤ 1000) => pick_any g q m W hr (by omega) (by omega) (by omega)
  replace hPk := Lib.hid hPk
  have hOd := Lib.hid (fun W q (hr : Rd W g q) (hq : q ≤ 5000) => odd_any g q n W hr (by omega) hn.1 (by omega))
  have HD0 := Lib.hid (RW.start h)
  clear h
  go_enter Try.func52, Try.ntmps52
  go_wp2_with (fail)
  refine (hPk.out w p HD0.out.rd (by omega) 9 (by omega) (by omega)).mono ?_
  rintro e w1 ⟨k1, rfl, hk1, hr1, hg1, -⟩
  have HD1 := Lib.hid (HD0.out.pick hr1 hg1)
  obtain ⟨M, rfl⟩ : ∃ M : Nat, k1 = (M : Int) := ⟨k1.toNat, by omega⟩
  have hM8 : M ≤ 8 := by omega
  clear HD0 hr1 hg1 hk1
  go_wp2
  go_loopw [5, 6] (fun s5 s6 wr => ∃ (j q : Nat) (s : ByteArray), s6 = .int .i64 j ∧ s5 = .string s ∧ RW w g wr q ∧ j ≤ M ∧ s.size + 3 * j ≤ 24 ∧ q + 2 * j ≤ p + 17) (fun _ s6 _ => (intOf s6).toNat)
  case atStart => exact ⟨M, p + 1, ⟨#[]⟩, rfl, rfl, HD1.out, Nat.le_refl _, by show 0 + 3 * M ≤ 24; omega, by omega⟩
  case round =>
    obtain ⟨j, q, s, rfl, rfl, hd, hj, hs, hq⟩ := hrel
    replace hd := Lib.hid hd
    by_cases h0 : 0 < j
    · have i3 : 0 < (j : Int) := by omega
      go_wp2_with (fail)
      refine (hPk.out _ q hd.out.rd (by omega) 10 (by omega) (by omega)).mono ?_
      rintro e w2 ⟨k2, rfl, hk2, hr2, hg2, -⟩
      obtain ⟨a, rfl⟩ : ∃ a : Nat, k2 = (a : Int) := ⟨k2.toNat, by omega⟩
      have ha : a < 10 := by omega
      have f1 : (a : Int) ≤ 10 := by omega
      have f2 : (0 : Int) ≤ (a : Int) := by omega
      have hd2 := Lib.hid (hd.out.pick hr2 hg2)
      have hz : ((⟨#[49, 50, 51, 49, 49, 49, 49, 57, 51, 50]⟩ : ByteArray).extract a 10).size = 10 - a := by rw [ByteArray.size_extract]; show min 10 10 - a = 10 - a; omega
      have hsz0 : (⟨#[49, 50, 51, 49, 49, 49, 49, 57, 51, 50]⟩ : ByteArray).size = 10 := rfl
      clear hd hr2 hg2 hk2
      go_wp2_with (fail)
      refine (hPk.out _ (q + 1) hd2.out.rd (by omega) 3 (by omega) (by omega)).mono ?_
      rintro e w3 ⟨k3, rfl, hk3, hr3, hg3, -⟩
      obtain ⟨b, rfl⟩ : ∃ b : Nat, k3 = (b : Int) := ⟨k3.toNat, by omega⟩
      have hb2 : b ≤ 2 := by omega
      have hd3 := Lib.hid (hd2.out.pick hr3 hg3)
      clear hd2 hr3 hg3 hk3
      have hwb : IntKind.i64.wrap (1 + (b : Int)) = 1 + (b : Int) := IntWalk.i64_in _ (by omega)
      generalize (⟨#[49, 50, 51, 49, 49, 49, 49, 57, 51, 50]⟩ : ByteArray).extract a 10 = dd at *
      have hd1 : (dd.extract 0 1).size = 1 := by rw [ByteArray.size_extract]; omega
      have g1 : (1 : Int) ≤ (dd.size : Int) := by omega
      clear hz hsz0 f1 f2
      go_wp2
      go_loop [5, 8] (fun s5 s8 => ∃ (i : Nat) (u : ByteArray), s8 = .int .i64 i ∧ s5 = .string u ∧ u.size + i ≤ s.size + 3) (fun _ s8 => (intOf s8).toNat)
      case atStart => exact ⟨b + 1, s, by congr 1; omega, rfl, by omega⟩
      case round =>
        obtain ⟨i, u, rfl, rfl, hu⟩ := hrel
        by_cases hi0 : 0 < i
        · have i4 : 0 < (i : Int) := by omega
          have hcat : ¬ (9223372036854775807 < u.size + (dd.extract 0 1).size) := by rw [hd1]; omega
          have hus : (u ++ dd.extract 0 1).size = u.size + 1 := by rw [ByteArray.size_append, hd1]
          go_wp2
          go_round
          case rel => exact ⟨i - 1, u ++ dd.extract 0 1, by go_num, rfl, by omega⟩
          case measure => simp [intOf]; omega
        · obtain rfl : i = 0 := by omega
          go_wp2
          go_roundw
          case rel => exact ⟨j - 1, q + 1 + 1, u, by go_num, rfl, hd3.out, by omega, by omega, by omega⟩
          case measure => simp [intOf]; omega
    · obtain rfl : j = 0 := by omega
      go_wp2_with (fail)
      refine (hOd.out _ q hd.out.rd (by omega)).mono ?_
      rintro e w2 ⟨o, q2, rfl, hq2, hr2, hg2, -⟩
      have hd2 := Lib.hid (hd.out.pick hr2 hg2)
      clear hd hr2 hg2
      cases o
      · have KR := Lib.hid (specRowOk_any s w2 (by omega))
        go_wp2_with (fail)
        refine KR.out.mono ?_
        rintro e _ ⟨rfl, m, rfl⟩
        have hd3 := Lib.hid (hd2.out.below (below_drewN (Below.refl _ _) m))
        cases hrow : rowL (tl s)
        · replace hrow := Lib.hid hrow
          go_wp2
          go_ret
          exact ⟨_, q2, rfl, (by decide), by omega, hd3.out⟩
        · replace hrow := Lib.hid hrow
          go_wp2
          go_ret
          exact ⟨_, q2, rfl, by omega, by omega, hd3.out⟩
      · have hA := Lib.hid (hd2.out.alloc (.cells #[.string ⟨#[48]⟩, .string ⟨#[49, 49, 49, 49, 49, 49, 49, 49, 49, 49]⟩, .string ⟨#[49, 50, 120]⟩, .string ⟨#[49, 50, 51, 52, 49, 50, 51, 52, 49, 50, 51, 52, 49, 50, 51, 52, 49, 50, 51, 52, 49, 50, 51, 52, 49, 50, 51, 52, 49, 50, 51, 52, 49, 50, 51, 52, 49, 50, 51, 52, 49, 50, 51, 52, 49, 50, 51, 52, 49, 50, 51, 52, 49, 50, 51, 52, 49, 50, 51, 52, 49, 50, 51]⟩] 9))
        have hN := Lib.hid (Blk.new w2 9 #[.string ⟨#[48]⟩, .string ⟨#[49, 49, 49, 49, 49, 49, 49, 49, 49, 49]⟩, .string ⟨#[49, 50, 120]⟩, .string ⟨#[49, 50, 51, 52, 49, 50, 51, 52, 49, 50, 51, 52, 49, 50, 51, 52, 49, 50, 51, 52, 49, 50, 51, 52, 49, 50, 51, 52, 49, 50, 51, 52, 49, 50, 51, 52, 49, 50, 51, 52, 49, 50, 51, 52, 49, 50, 51, 52, 49, 50, 51, 52, 49, 50, 51, 52, 49, 50, 51, 52, 49, 50, 51]⟩])
        have hgl := hd2.out.glt
        go_wp2_with (fail)
        refine (hPk.out _ q2 hA.out.rd (by omega) 4 (by omega) (by omega)).mono ?_
        rintro e w3 ⟨k3, rfl, hk3, hr3, hg3, -⟩
        obtain ⟨a, rfl⟩ : ∃ a : Nat, k3 = (a : Int) := ⟨k3.toNat, by omega⟩
        have ha : a < 4 := by omega
        have ha' : (a : Int) < 4 := by omega
        have ha0 : (0 : Int) ≤ (a : Int) := by omega
        have hd3 := Lib.hid (hA.out.pick hr3 hg3)
        obtain ⟨y, hy, hys⟩ := pickL [⟨#[48]⟩, ⟨#[49, 49, 49, 49, 49, 49, 49, 49, 49, 49]⟩, ⟨#[49, 50, 120]⟩, ⟨#[49, 50, 51, 52, 49, 50, 51, 52, 49, 50, 51, 52, 49, 50, 51, 52, 49, 50, 51, 52, 49, 50, 51, 52, 49, 50, 51, 52, 49, 50, 51, 52, 49, 50, 51, 52, 49, 50, 51, 52, 49, 50, 51, 52, 49, 50, 51, 52, 49, 50, 51, 52, 49, 50, 51, 52, 49, 50, 51, 52, 49, 50, 51]⟩] 63 a ha (by decide)
        have hc : w3.cell? ⟨w2.heap.size, a, none⟩ = some (.string y) := ((hN.out.grown hg3 (by simp; omega)).cell a).trans hy
        clear hr3 hg3 hk3 hy
        go_wp2
        go_ret
        exact ⟨y, q2 + 1, rfl, hys, by omega, hd3.out⟩
end Go.Proofs.Ytfcjhelhhefkkaa
