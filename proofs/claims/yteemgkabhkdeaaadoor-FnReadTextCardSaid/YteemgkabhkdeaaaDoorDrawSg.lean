/-
  The contract of the draw of a tongue and a text.
-/
import Derived.Test.YteemgkabhkdeaaaDoorDrawSe
namespace Go.Proofs.YteemgkabhkdeaaaDoor
open Go.RowKit

/-- A tongue and a text are drawn. -/
def DrawnText (w : World) (e : Ending) (w' : World) : Prop := ∃ v t s, e = .returned (.tuple #[v, .string s]) ∧ OwnTng w' w.heap.size v t ∧ SmallT 40 t ∧ s.size ≤ 1000 ∧ Below w.heap.size w w'
theorem joinW_lim {l : List ByteArray} (h : ∀ k, (l.getD k ByteArray.empty).size ≤ 16) : ∀ k, (joinW l k).size ≤ 17 * k := by
  intro k
  induction k with
  | zero => exact Nat.le_refl _
  | succ k ih =>
    rw [joinW, ByteArray.size_append]
    have h8 := h k
    have h1 : (⟨#[32]⟩ : ByteArray).size = 1 := rfl
    split
    · rw [ByteArray.size_append, h1]; omega
    · omega
theorem DM.below {w wx w' : World} {z q : Nat} {cs : Array Value} {v : Value} {t : Tg} (h : DM w z cs v t wx q) (hb : Below wx.heap.size wx w') : DM w z cs v t w' q :=
  ⟨h.rd.below hb (Nat.le_refl _), h.hx.below hb h.hx.lt, h.hz.below hb h.hz.lt, h.own.below hb (Nat.le_refl _), h.low.trans (hb.mono h.low.size)⟩
theorem DM.alloc {w wx : World} {z q : Nat} {cs : Array Value} {v : Value} {t : Tg} (h : DM w z cs v t wx q) (o : Obj) : DM w z cs v t (wx.alloc o) q :=
  h.below ((Below.refl _ _).alloc (Nat.le_refl _) o)
theorem DM.text {w wx : World} {z q : Nat} {cs : Array Value} {v u0 u1 u2 : Value} {t : Tg} {s : ByteArray} (h : DM w z cs v t wx q) (hs : SmallT 40 t) (hz : s.size ≤ 1000) :
    DrawnText w (.returned (.tuple #[v, .string s])) (((wx.setCell ⟨w.heap.size, 0, none⟩ u0).setCell ⟨w.heap.size, 1, none⟩ u1).setCell ⟨w.heap.size, 2, none⟩ u2) :=
  ⟨v, t, s, rfl, (h.own.set3 h.hx).mono (by omega), hs, hz, below_tng3 h.low (Nat.le_refl _)⟩
theorem DrawnText.alloc {w W : World} {e : Ending} (h : DrawnText w e W) (o : Obj) : DrawnText w e (W.alloc o) := by
  obtain ⟨v, t, s, he, ho, hs, hz, hb⟩ := h
  exact ⟨v, t, s, he, ho.below ((Below.refl _ _).alloc (Nat.le_refl _) o) (Nat.le_refl _), hs, hz, hb.alloc hb.size o⟩

set_option maxRecDepth 100000 in
set_option maxHeartbeats 4000000 in
theorem drawReadText_any (A : Option Addr) (n c : Nat) (xs : List Int) (w : World) (h : Ints w .u8 A n c xs) (hn : n ≤ 1048576) (hwf : ∀ x ∈ xs, (Lit.int .u8 x).wf = true) (hc : c ≤ maxLen) :
    Calls Tryd.prog 6 #[.slice A n c] w (DrawnText w) := by
  have hB0 : Below w.heap.size w (w.alloc zeroTng) := (Below.refl _ _).alloc (Nat.le_refl _) _
  have HO := Lib.hid (open_any A n c xs (w.alloc zeroTng) (h.below hB0 (Nat.le_refl _)) hn hwf hc)
  have HB0 := Lib.hid hB0
  have HX := Lib.hid (Blk.new w 26 #[.slice none 0 0, .slice none 0 0, .slice none 0 0])
  clear h hwf hc hB0
  go_enter Tryd.func6, Tryd.ntmps6
  go_wp2_with (fail)
  refine HO.out.mono ?_
  rintro e w1 ⟨rfl, hr, hb, -⟩
  have hX1 := Lib.hid (HX.out.below hb (by simp))
  have hB1 := Lib.hid (HB0.out.trans (hb.mono (by simp)))
  have hs1 := hb.size
  simp only [World.size_alloc] at hs1
  rw [World.size_alloc] at hr
  have hl1 := hr.lt
  clear hb HO
  go_wp2_with (fail)
  refine (said_any _ w1 hr).mono ?_
  rintro e w2 ⟨v, t, u, ys, q, rfl, ho, hou, hsm, hsw, hr2, hq, hg⟩
  obtain ⟨A1, c1, A2, c2, A3, c3, rfl⟩ := ho.shape
  obtain ⟨A4, c4, rfl, hys⟩ := hou.strs
  have hX2 : Blk w2 w.heap.size 26 #[.slice none 0 0, .slice none 0 0, .slice none 0 0] := hX1.out.grown hg (by simp)
  have hB2 := below_read hB1.out hg (by omega) (by omega)
  have hA := (Below.refl w2.heap.size w2).alloc (Nat.le_refl _) (.cells #[.slice A1 t.us.length c1, .slice A2 t.bs.length c2, .slice A3 t.ns.length c3] 26)
  have hs2 := hg.size
  have D : DM w w2.heap.size #[.slice A1 t.us.length c1, .slice A2 t.bs.length c2, .slice A3 t.ns.length c3] (.agg #[.slice A1 t.us.length c1, .slice A2 t.bs.length c2, .slice A3 t.ns.length c3]) t (w2.alloc (.cells #[.slice A1 t.us.length c1, .slice A2 t.bs.length c2, .slice A3 t.ns.length c3] 26)) q :=
    ⟨hr2.below hA (Nat.le_refl _), hX2.below hA hX2.lt, Blk.new w2 26 #[.slice A1 t.us.length c1, .slice A2 t.bs.length c2, .slice A3 t.ns.length c3], (ho.mono (by omega)).below hA (Nat.le_refl _), hB2.trans (hA.mono hB2.size)⟩
  have hz : w.heap.size + 1 < w2.heap.size := by omega
  have hY := hys.below hA (Nat.le_refl _)
  replace D := Lib.hid D
  replace hsm := Lib.hid hsm
  have hl44 := hsw.1
  have hat : ∀ k, (ys.getD k ByteArray.empty).size ≤ 16 := fun k => by
    by_cases hk : k < ys.length
    · rw [List.getD_eq_getElem?_getD, List.getElem?_eq_getElem hk]; exact hsw.2 _ (List.getElem_mem hk)
    · rw [List.getD_eq_getElem?_getD, List.getElem?_eq_none (by omega)]; exact Nat.zero_le _
  have hjs := Lib.hid (joinW_lim hat)
  replace hat := Lib.hid hat
  clear hA hB2 hX2 ho hou hys hr2 hg hs1 hs2 hl1 hr hB1 hX1 HX HB0 hsw
  go_upto_region 3 with (fail)
  generalize w2.alloc (.cells #[.slice A1 t.us.length c1, .slice A2 t.bs.length c2, .slice A3 t.ns.length c3] 26) = W at *
  generalize w2.heap.size = z at *
  generalize hL : ys.length = L at *
  replace hL := Lib.hid hL
  have hYa := Lib.hid hY.at_
  clear hY
  go_wp2
  go_loop [7, 8] (fun s7 s8 => ∃ k : Nat, k ≤ L ∧ s8 = .int .i64 k ∧ s7 = .string (joinW ys k)) (fun _ i => L - (intOf i).toNat)
  case atStart => exact ⟨0, Nat.zero_le _, rfl, rfl⟩
  case round =>
    obtain ⟨k, hk, rfl, rfl⟩ := hrel
    by_cases hlt : k < L
    · obtain ⟨b, o, rfl, -, hc⟩ := hYa.out (by omega)
      have ck := hc k hlt
      have HJ : joinW ys (k + 1) = (if 0 < k then joinW ys k ++ ⟨#[32]⟩ else joinW ys k) ++ ys.getD k ByteArray.empty := rfl
      have z1 := hjs.out k
      have z2 := hat.out k
      generalize ys.getD k ByteArray.empty = x at *
      generalize joinW ys k = out at *
      have y1 : (⟨#[32]⟩ : ByteArray).size = 1 := rfl
      have y2 : (out ++ ⟨#[32]⟩).size = out.size + 1 := by rw [ByteArray.size_append, y1]
      have y3 : ¬ (9223372036854775807 < out.size + 1) := by omega
      have y4 : ¬ (9223372036854775807 < out.size + 1 + x.size) := by omega
      have y5 : ¬ (9223372036854775807 < out.size + x.size) := by omega
      clear hc
      by_cases h0 : 0 < k
      · have h0' : (0 : Int) < (k : Int) := by omega
        rw [if_pos h0] at HJ
        replace HJ := Lib.hid HJ
        go_wp2
        go_round
        case rel => exact ⟨k + 1, by omega, by go_num, by rw [HJ.out]⟩
        case measure => simp [intOf]; omega
      · have h0' : ¬ (0 : Int) < (k : Int) := by omega
        rw [if_neg h0] at HJ
        replace HJ := Lib.hid HJ
        go_wp2
        go_round
        case rel => exact ⟨k + 1, by omega, by go_num, by rw [HJ.out]⟩
        case measure => simp [intOf]; omega
    · obtain rfl : k = L := by omega
      have hsz := hjs.out k
      generalize joinW ys k = s at *
      have hq' : q ≤ 1000000 := by omega
      clear hat hjs hYa
      go_wp2_with (fail)
      refine (odd_any (w.heap.size + 1) q 9 W D.out.rd (by omega) (by omega) (by omega)).mono ?_
      rintro e w5 ⟨bt, q5, rfl, hq5, hr5, hg5, -⟩
      replace D := Lib.hid (D.out.pick hg5 hr5 hz)
      clear hr5 hg5
      obtain ⟨z0, z1, z2, -, -, -⟩ := blk3 D.out.hz
      obtain ⟨r0, r1, r2, f0, f1, f2⟩ := blk3 D.out.hx
      have hzl := D.out.hz.lt
      have hwl : w.heap.size < w5.heap.size := D.out.hx.lt
      cases bt
      · go_wp2
        refine bodyPost_ret (v := .tuple #[.agg #[.slice A1 t.us.length c1, .slice A2 t.bs.length c2, .slice A3 t.ns.length c3], .string s]) (by simp [results, Tryd.results6, go_sem, r0, r1, r2]) rfl ?_
        exact D.out.text hsm.out (by omega)
      · have DA := Lib.hid (fun o => D.out.alloc o)
        go_upto_region 11 with (fail)
        go_region_law (first
          | (go_simp; go_at_call 21; refine (pick_any (w.heap.size + 1) q5 2 _ (by first | exact D.out.rd.drew | exact (D.out.rd.alloc' _).drew) (by omega) (by omega) (by omega)).mono ?_; rintro e V9 ⟨k9, rfl, hk9, hr9, hg9, -⟩; obtain ⟨kk, rfl⟩ : ∃ kk : Nat, k9 = (kk : Int) := ⟨k9.toNat, by omega⟩; have hkk : kk < 2 := (by omega); obtain ⟨y, hy, hys, hy2⟩ := pick2 ⟨#[32]⟩ ⟨#[120]⟩ 1 kk hkk (by decide) (by decide); have D9 := (by first | exact D.out.pick ⟨hg9.os, hg9.tape, hg9.output, hg9.size, hg9.block⟩ hr9 hz | exact (DA.out _).pick ⟨hg9.os, hg9.tape, hg9.output, hg9.size, hg9.block⟩ hr9 hz); (try have hc7 : V9.cell? ⟨w5.heap.size, kk, none⟩ = some (.string y) := (((Blk.new w5 _ _).drew.grown hg9 (fun e => by have e' := Option.some.inj e; omega)).cell kk).trans hy); obtain ⟨z0', z1', z2', -, -, -⟩ := blk3 D9.hz; obtain ⟨r0', r1', r2', f0', f1', f2'⟩ := blk3 D9.hx; have hz9 := D9.hz.lt; have hw9 : w.heap.size < V9.heap.size := D9.hx.lt; have hkk1 : (kk : Int) < 2 := (by omega); have hkk0 : (0 : Int) ≤ (kk : Int) := (by omega); have hcat : ¬ (9223372036854775807 < s.size + y.size) := (by omega); have hfin : (s ++ y).size ≤ 1000 := (by rw [ByteArray.size_append]; omega); replace D9 := Lib.hid D9; replace hfin := Lib.hid hfin; clear hk9 hr9 hg9))
        all_goals
          clear z0 z1 z2 r0 r1 r2 f0 f1 f2 z0' z1' z2'
          go_wp2
          first
          | (refine bodyPost_ret (v := .tuple #[.agg #[.slice A1 t.us.length c1, .slice A2 t.bs.length c2, .slice A3 t.ns.length c3], .string (s ++ y)]) (by simp [results, Tryd.results6, go_sem, r0', r1', r2']; done) rfl ?_
             first
             | exact D9.out.text hsm.out hfin.out
             | exact (D9.out.alloc _).text hsm.out hfin.out)
          | (have hT := D9.out.text (u0 := .slice A1 t.us.length c1) (u1 := .slice A2 t.bs.length c2) (u2 := .slice A3 t.ns.length c3) hsm.out hfin.out
             have hS := ((D9.out.hx.set_ 0 (.slice A1 t.us.length c1)).set_ 1 (.slice A2 t.bs.length c2)).set_ 2 (.slice A3 t.ns.length c3)
             replace hS : Blk (((V9.setCell ⟨w.heap.size, 0, none⟩ (.slice A1 t.us.length c1)).setCell ⟨w.heap.size, 1, none⟩ (.slice A2 t.bs.length c2)).setCell ⟨w.heap.size, 2, none⟩ (.slice A3 t.ns.length c3)) w.heap.size 26 #[.slice A1 t.us.length c1, .slice A2 t.bs.length c2, .slice A3 t.ns.length c3] := hS
             clear D9 hz9 hw9 r0' r1' r2' f0' f1' f2'
             generalize ((V9.setCell ⟨w.heap.size, 0, none⟩ (.slice A1 t.us.length c1)).setCell ⟨w.heap.size, 1, none⟩ (.slice A2 t.bs.length c2)).setCell ⟨w.heap.size, 2, none⟩ (.slice A3 t.ns.length c3) = WS at *
             obtain ⟨r0', r1', r2', -, -, -⟩ := blk3 (hS.alloc (.cells #[.string ⟨#[32]⟩, .string ⟨#[120]⟩] 9))
             refine bodyPost_ret (v := .tuple #[.agg #[.slice A1 t.us.length c1, .slice A2 t.bs.length c2, .slice A3 t.ns.length c3], .string (s ++ y)]) (by simp [results, Tryd.results6, go_sem, r0', r1', r2']) rfl ?_
             exact hT.alloc _)
end Go.Proofs.YteemgkabhkdeaaaDoor
