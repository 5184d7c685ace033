/-
  Contracts of the draws of a tongue, a number, a word and a bound.
-/
import Derived.Test.YtebfoofiaokhdaaDrawA
namespace Go.Proofs.Ytebfoofiaokhdaa
open Go.RowKit

/-- A tongue, a number, a word and a bound are drawn. -/
def DrawnAway (w : World) (e : Ending) (w' : World) : Prop := ∃ v t n x b, e = .returned (.tuple #[v, .int .i64 n, .string x, .int .i64 b]) ∧ OwnTng w' w.heap.size v t ∧ SmallT 40 t ∧ (-200000 ≤ n ∧ n ≤ 4000000) ∧ x.size ≤ 16 ∧ (0 ≤ b ∧ b ≤ 101) ∧ Below w.heap.size w w'

set_option maxRecDepth 100000 in
set_option maxHeartbeats 4000000 in
theorem drawShortenedUpTo_any (A : Option Addr) (n c : Nat) (xs : List Int) (w : World) (h : Ints w .u8 A n c xs) (hn : n ≤ 1048576) (hwf : ∀ x ∈ xs, (Lit.int .u8 x).wf = true) (hc : c ≤ maxLen) :
    Calls Try.prog 37 #[.slice A n c] w (DrawnAway w) := by
  have hB0 : Below w.heap.size w (w.alloc zeroTng) := (Below.refl _ _).alloc (Nat.le_refl _) _
  have HO := Lib.hid (open_any A n c xs (w.alloc zeroTng) (h.below hB0 (Nat.le_refl _)) hn hwf hc)
  have HB0 := Lib.hid hB0
  have HX := Lib.hid (Blk.new w 26 #[.slice none 0 0, .slice none 0 0, .slice none 0 0])
  clear h hwf hc hB0
  go_enter Try.func37, Try.ntmps37
  go_wp2_with (fail)
  refine HO.out.mono ?_
  rintro e w1 ⟨rfl, hr, hb, -⟩
  have hX1 := Lib.hid (HX.out.below hb (by simp))
  have hB1 := Lib.hid (HB0.out.trans (hb.mono (by simp)))
  have hs1 := hb.size
  simp only [World.size_alloc] at hs1
  rw [World.size_alloc] at hr
  have hl1 := hr.lt
  clear hb HO
  go_wp2_with (fail)
  refine (away_any _ w1 hr).mono ?_
  rintro e w2 ⟨v, t, m, x, bd, q, rfl, ho, hsm, hm, hx16, hbd, hr2, hq, hg⟩
  obtain ⟨A1, c1, A2, c2, A3, c3, rfl⟩ := ho.shape
  have hX2 : Blk w2 w.heap.size 26 #[.slice none 0 0, .slice none 0 0, .slice none 0 0] := hX1.out.grown hg (by simp)
  have hB2 := below_read hB1.out hg (by omega) (by omega)
  have hA := (Below.refl w2.heap.size w2).alloc (Nat.le_refl _) (.cells #[.slice A1 t.us.length c1, .slice A2 t.bs.length c2, .slice A3 t.ns.length c3] 26)
  have hs2 := hg.size
  have D : DM w w2.heap.size #[.slice A1 t.us.length c1, .slice A2 t.bs.length c2, .slice A3 t.ns.length c3] (.agg #[.slice A1 t.us.length c1, .slice A2 t.bs.length c2, .slice A3 t.ns.length c3]) t (w2.alloc (.cells #[.slice A1 t.us.length c1, .slice A2 t.bs.length c2, .slice A3 t.ns.length c3] 26)) q :=
    ⟨hr2.below hA (Nat.le_refl _), hX2.below hA hX2.lt, Blk.new w2 26 #[.slice A1 t.us.length c1, .slice A2 t.bs.length c2, .slice A3 t.ns.length c3], (ho.mono (by omega)).below hA (Nat.le_refl _), hB2.trans (hA.mono hB2.size)⟩
  have hz : w.heap.size + 1 < w2.heap.size := by omega
  replace D := Lib.hid D
  replace hsm := Lib.hid hsm
  clear hA hB2 hX2 ho hr2 hg hs1 hs2 hl1 hr hB1 hX1 HX HB0
  go_upto_region 3 with (fail)
  generalize w2.alloc (.cells #[.slice A1 t.us.length c1, .slice A2 t.bs.length c2, .slice A3 t.ns.length c3] 26) = W at *
  generalize w2.heap.size = z at *
  obtain ⟨z0, z1, z2, -, -, -⟩ := blk3 D.out.hz
  obtain ⟨r0, r1, r2, f0, f1, f2⟩ := blk3 D.out.hx
  go_region_law (first
    | (have hgd := D9.out.rd; clear hgd; go_simp; go_at_call 45; refine (pick_any (w.heap.size + 1) (q+1) 20 _ (by first | exact D9.out.rd.drew | exact D9.out.rd) (by omega) (by omega) (by omega)).mono ?_; rintro e VB ⟨kB, rfl, hkB, hrB, hgB, -⟩; have hgB' : V9.grownBy VB (some (w.heap.size + 1)) := ⟨hgB.os, hgB.tape, hgB.output, hgB.size, hgB.block⟩; have DB := Lib.hid (D9.out.pick hgB' hrB hz); obtain ⟨z0'', z1'', z2'', -, -, -⟩ := blk3 DB.out.hz; obtain ⟨r0'', r1'', r2'', f0'', f1'', f2''⟩ := blk3 DB.out.hx; have aB : 0 ≤ kB := hkB.1; have bB : kB < 20 := (by omega); have q1 : 0 ≤ kB / 19 := (by omega); have q2 : kB / 19 ≤ 1 := (by omega); clear hkB hrB hgB hgB')
    | (go_simp; go_at_call 45; refine (pick_any (w.heap.size + 1) q 130 _ (by first | exact D.out.rd.drew | exact D.out.rd) (by omega) (by omega) (by omega)).mono ?_; rintro e V9 ⟨k9, rfl, hk9, hr9, hg9, -⟩; have hg9' : W.grownBy V9 (some (w.heap.size + 1)) := ⟨hg9.os, hg9.tape, hg9.output, hg9.size, hg9.block⟩; have D9 := Lib.hid (D.out.pick hg9' hr9 hz); obtain ⟨z0', z1', z2', -, -, -⟩ := blk3 D9.out.hz; obtain ⟨r0', r1', r2', f0', f1', f2'⟩ := blk3 D9.out.hx; have a9 : 0 ≤ k9 := hk9.1; have b9 : k9 < 130 := (by omega); clear hk9 hr9 hg9 hg9'))
  all_goals
    clear z0 z1 z2 r0 r1 r2 f0 f1 f2 z0' z1' z2' r0' r1' r2' f0' f1' f2' z0'' z1'' z2''
    have hv : IntKind.i64.wrap (k9 + IntKind.i64.wrap (IntKind.i64.wrap (kB.tdiv 19) * 2000)) = k9 + kB / 19 * 2000 := by
      have v1 : IntKind.i64.wrap (kB / 19) = kB / 19 := IntWalk.i64_in _ (by omega)
      have v2 : IntKind.i64.wrap (kB / 19 * 2000) = kB / 19 * 2000 := IntWalk.i64_in _ (by omega)
      have v3 : IntKind.i64.wrap (k9 + kB / 19 * 2000) = k9 + kB / 19 * 2000 := IntWalk.i64_in _ (by omega)
      rw [Int.tdiv_eq_ediv_of_nonneg aB, v1, v2, v3]
    have HF : DrawnAway w (.returned (.tuple #[.agg #[.slice A1 t.us.length c1, .slice A2 t.bs.length c2, .slice A3 t.ns.length c3], .int .i64 (k9 + kB / 19 * 2000), .string x, .int .i64 bd])) (((VB.setCell ⟨w.heap.size, 0, none⟩ (.slice A1 t.us.length c1)).setCell ⟨w.heap.size, 1, none⟩ (.slice A2 t.bs.length c2)).setCell ⟨w.heap.size, 2, none⟩ (.slice A3 t.ns.length c3)) :=
      ⟨_, t, _, _, _, rfl, (DB.out.own.set3 DB.out.hx).mono (by omega), hsm.out, ⟨by omega, by omega⟩, hx16, hbd, below_tng3 DB.out.low (Nat.le_refl _)⟩
    replace HF := Lib.hid HF
    clear D D9 DB
    rw [hv]
    clear hv
    go_wp2
    refine bodyPost_ret (v := .tuple #[.agg #[.slice A1 t.us.length c1, .slice A2 t.bs.length c2, .slice A3 t.ns.length c3], .int .i64 (k9 + kB / 19 * 2000), .string x, .int .i64 bd]) (by simp [results, Try.results37, go_sem, r0'', r1'', r2'']) rfl ?_
    exact HF.out
end Go.Proofs.Ytebfoofiaokhdaa
