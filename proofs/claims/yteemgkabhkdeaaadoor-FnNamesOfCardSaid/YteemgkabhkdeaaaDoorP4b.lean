/-
  The contracts of the program's reader: its sums, and its two methods.
-/
import Derived.Test.YteemgkabhkdeaaaDoorP4a
import Derived.Test.YteemgkabhkdeaaaDoorRead
import Derived.Lib.SliceRun
import Derived.RegionTactic
import Derived.BigRegion
namespace Go.Proofs.YteemgkabhkdeaaaDoor
open Go.RowKit

/-- Block g is a reader over the bases u, with the sums s. -/
structure Rdr (w : World) (g : Nat) (u : Value) (s : List Int) : Prop where
  len : s.length = 5
  blk : Blk w g 91 (#[u] ++ (s.map (Value.int .i64)).toArray)
section
variable {w w' : World} {g : Nat} {u : Value} {s : List Int}
theorem Rdr.base (h : Rdr w g u s) : w.cell? ⟨g, 0, none⟩ = some u := by rw [h.blk.cell]; simp
theorem Rdr.cell (h : Rdr w g u s) {i : Nat} (hi : i < 5) : w.cell? ⟨g, 1 + i, none⟩ = some (.int .i64 (s.getD i 0)) := by
  have hl := h.len
  rw [h.blk.cell, Array.getElem?_append_right (by simp)]
  simp [List.getElem?_eq_getElem (show i < s.length by omega)]
theorem Rdr.frozen (h : Rdr w g u s) (i : Nat) : w.frozen? ⟨g, i, none⟩ = false := h.blk.frozen i
theorem Rdr.set_ (h : Rdr w g u s) {i : Nat} (hi : i < 5) (x : Int) : Rdr (w.setCell ⟨g, 1 + i, none⟩ (.int .i64 x)) g u (s.set i x) := by
  have hl := h.len
  refine ⟨by rw [List.length_set]; exact hl, ?_⟩
  have := h.blk.set_ (1 + i) (.int .i64 x)
  have e : (#[u] ++ (s.map (Value.int .i64)).toArray).setIfInBounds (1 + i) (.int .i64 x) = #[u] ++ ((s.set i x).map (Value.int .i64)).toArray := by
    apply Array.ext_getElem?
    intro j
    rw [Array.getElem?_setIfInBounds]
    by_cases hj : 1 + i = j
    · subst hj
      rw [if_pos rfl, if_pos (by simp; omega), Array.getElem?_append_right (by simp)]
      simp [show i < s.length by omega]
    · rw [if_neg hj]
      rcases Nat.lt_or_ge j 1 with h1 | h1
      · rw [Array.getElem?_append_left (by simpa using h1), Array.getElem?_append_left (by simpa using h1)]
      · rw [Array.getElem?_append_right (by simpa using h1), Array.getElem?_append_right (by simpa using h1)]
        simp only [List.size_toArray, List.length_cons, List.length_nil, List.getElem?_toArray, List.map_set]
        rw [List.getElem?_set_ne (by omega)]
  rwa [e] at this
theorem Rdr.drewN (h : Rdr w g u s) (m : Nat) : Rdr (w.drewN m) g u s := ⟨h.len, h.blk.drewN m⟩
theorem Rdr.drew (h : Rdr w g u s) : Rdr w.drew g u s := ⟨h.len, h.blk.drew⟩
theorem Rdr.below {B : Nat} (h : Rdr w g u s) (hb : Below B w w') (hg : g < B) : Rdr w' g u s := ⟨h.len, h.blk.below hb hg⟩
theorem Rdr.grown {row : Option Nat} (h : Rdr w g u s) (hb : w.grownBy w' row) (hg : some g ≠ row) : Rdr w' g u s := ⟨h.len, h.blk.grown hb hg⟩
theorem Rdr.lt (h : Rdr w g u s) : g < w.heap.size := h.blk.lt
theorem Rdr.ints (h : Rdr w g u s) {p : Nat} (hp : p ≤ 5) : Ints w .i64 (some ⟨g, 1, none⟩) p 5 (s.take p) :=
  ⟨by have := h.len; simp; omega, hp, fun _ => ⟨g, 1, rfl, h.lt, fun j hj => by
    rw [h.cell (by omega)]
    simp [List.getD_eq_getElem?_getD, hj]⟩⟩
theorem Rdr.zero (h : Rdr w g u s) {p : Nat} (h1 : 1 ≤ p) (hp : p < 5) : Rdr (w.setCells g 1 (List.replicate p (.int .i64 0))) g u (zeroTo s p) ∧ w.grownBy (w.setCells g 1 (List.replicate p (.int .i64 0))) (some g) := by
  have hl := h.len
  obtain ⟨a, b, c, d, e, rfl⟩ : ∃ a b c d e, s = [a, b, c, d, e] := by
    match s, hl with
    | [a, b, c, d, e], _ => exact ⟨a, b, c, d, e, rfl⟩
  have k0 := h.set_ (i := 0) (by omega) 0
  have k1 := k0.set_ (i := 1) (by omega) 0
  have k2 := k1.set_ (i := 2) (by omega) 0
  have k3 := k2.set_ (i := 3) (by omega) 0
  have g0 := grown_setCell w g 1 (.int .i64 0)
  have g1 := g0.trans (grown_setCell _ g 2 (.int .i64 0))
  have g2 := g1.trans (grown_setCell _ g 3 (.int .i64 0))
  have g3 := g2.trans (grown_setCell _ g 4 (.int .i64 0))
  rcases (show p = 1 ∨ p = 2 ∨ p = 3 ∨ p = 4 by omega) with rfl | rfl | rfl | rfl
  · exact ⟨k0, g0⟩
  · exact ⟨k1, g1⟩
  · exact ⟨k2, g2⟩
  · exact ⟨k3, g3⟩
end
theorem sumTo_take (s : List Int) (p : Nat) : sumTo' (s.take p) p = sumTo' s p :=
  sumTo_ext p fun i hi => by simp [List.getD_eq_getElem?_getD, hi]
theorem sumTo_lim {xs : List Int} {M : Int} (_hM : 0 ≤ M) (h : ∀ j, 0 ≤ xs.getD j 0 ∧ xs.getD j 0 ≤ M) : ∀ k : Nat, 0 ≤ sumTo' xs k ∧ sumTo' xs k ≤ M * (k : Int) := by
  intro k
  induction k with
  | zero => exact ⟨Int.le_refl _, by simp [sumTo']⟩
  | succ k ih =>
    have h2 := h k
    rw [sumTo']
    have e : M * ((k + 1 : Nat) : Int) = M * k + M := by
      rw [show ((k + 1 : Nat) : Int) = (k : Int) + 1 by omega, Int.mul_add, Int.mul_one]
    omega
theorem take_bd {s : List Int} {k : Nat} (h : SumOk s k) (hk : k ≤ 50) (p : Nat) : ∀ j, 0 ≤ (s.take p).getD j 0 ∧ (s.take p).getD j 0 ≤ 5000000 := fun j => by
  by_cases hj : j < p
  · have e : (s.take p).getD j 0 = s.getD j 0 := by simp [List.getD_eq_getElem?_getD, hj]
    rw [e]
    have := h.bd j
    omega
  · have e : (s.take p).getD j 0 = 0 := by simp [List.getD_eq_getElem?_getD, List.getElem?_take, hj]
    omega

theorem sumOfAll_any (A : Option Addr) (n c : Nat) (xs : List Int) (w : World) (h : Ints w .i64 A n c xs) (hn : n ≤ 100) (hb : ∀ j, 0 ≤ xs.getD j 0 ∧ xs.getD j 0 ≤ 5000000) :
    Calls Tryd.prog 57 #[.slice A n c] w fun e w' => e = .returned (.int .i64 (sumTo' xs n)) ∧ w = w' := by
  have HS := Lib.hid (sumTo_lim (by decide) hb)
  have HB := Lib.hid hb
  clear hb
  go_enter Tryd.func57, Tryd.ntmps57
  go_wp2
  go_loop [3, 8] (fun s3 s8 => ∃ k : Nat, k ≤ n ∧ s8 = .int .i64 k ∧ s3 = .int .i64 (sumTo' xs k)) (fun _ i => n - (intOf i).toNat)
  case atStart => exact ⟨0, Nat.zero_le _, rfl, rfl⟩
  case round =>
    obtain ⟨k, hk, rfl, rfl⟩ := hrel
    by_cases hlt : k < n
    · obtain ⟨b, o, rfl, -, hc⟩ := h.at_ (by omega)
      have ck := hc k hlt
      have b1 := HS.out k
      have b2 := HB.out k
      have HJ : sumTo' xs (k + 1) = sumTo' xs k + xs.getD k 0 := rfl
      generalize xs.getD k 0 = x at *
      generalize sumTo' xs k = y at *
      replace HJ := Lib.hid HJ
      clear hc
      go_wp2
      go_round
      case rel => exact ⟨k + 1, by omega, by go_num, by rw [HJ.out]⟩
      case measure => simp [intOf]; omega
    · obtain rfl : k = n := by omega
      go_wp2
      go_ret
      exact ⟨rfl, rfl⟩

def RdrPost (w : World) (g : Nat) (u : Value) (s : List Int) (e : Ending) (w' : World) : Prop := e = .returned (.bool true) ∧ Rdr w' g u s ∧ w.grownBy w' (some g)
set_option maxHeartbeats 1000000 in
theorem addUnit_any (g : Nat) (u : Value) (s : List Int) (x : Int) (w : World) (h : Rdr w g u s) (hs : 0 ≤ s.getD 0 0 ∧ s.getD 0 0 ≤ 5000000) (hx : 0 ≤ x ∧ x ≤ 100000) :
    Calls Tryd.prog 71 #[.pointer (some ⟨g, 0, none⟩), .int .i64 x] w (RdrPost w g u (addOn s x)) := by
  have c0 := h.cell (i := 0) (by omega)
  simp only [Nat.add_zero] at c0
  have f0 := h.frozen 1
  have HF : ∀ m, RdrPost w g u (addOn s x) (.returned (.bool true)) ((w.setCell ⟨g, 1, none⟩ (.int .i64 (s.getD 0 0 + x))).drewN m) := fun m => ⟨rfl, (h.set_ (i := 0) (by omega) _).drewN m, grown_drewN (grown_setCell _ _ _ _) m⟩
  replace HF := Lib.hid HF
  have hw : IntKind.i64.wrap (s.getD 0 0 + x) = s.getD 0 0 + x := IntWalk.i64_in _ (by omega)
  generalize s.getD 0 0 = y at *
  clear h
  go_enter Tryd.func71, Tryd.ntmps71
  go_wp2
  go_region
  all_goals
    go_wp2
    go_ret
    exact HF.out 1

/-- What takeBase leaves. -/
def TakePost (w : World) (g : Nat) (u : Value) (res : Option (List Int)) (e : Ending) (w' : World) : Prop :=
  w.grownBy w' (some g) ∧ ((res = none ∧ e = .returned (.bool false)) ∨ ∃ s', res = some s' ∧ e = .returned (.bool true) ∧ Rdr w' g u s')
set_option maxRecDepth 100000 in
set_option maxHeartbeats 2000000 in
theorem takeBase_any (g : Nat) (A2 : Option Addr) (c2 : Nat) (b : List Int) (s : List Int) (k p : Nat) (w : World) (h : Rdr w g (.slice A2 b.length c2) s) (hI : Ints w .i64 A2 b.length c2 b) (hne : ∀ a o, A2 = some ⟨a, o, none⟩ → a ≠ g)
    (hs : SumOk s k) (hk : k ≤ 50) (h1 : 1 ≤ p) (hp : p < 5) (hbl : b.length ≤ 5) (hpb : p < b.length) (hb : 1 ≤ b.getD p 0 ∧ b.getD p 0 ≤ 999999) :
    Calls Tryd.prog 72 #[.pointer (some ⟨g, 0, none⟩), .int .i64 p] w (TakePost w g (.slice A2 b.length c2) (takeOn b s p)) := by
  obtain ⟨a2, o2, rfl, hlt2, hc2⟩ := hI.at_ (by omega)
  have hag := hne a2 o2 rfl
  have KS := sumOfAll_any (some ⟨g, 1, none⟩) p 5 (s.take p) w (h.ints (by omega)) (by omega) (take_bd hs hk p)
  rw [sumTo_take] at KS
  replace KS := Lib.hid KS
  have hsb := hs.sum p (by omega)
  have HC : ∀ ty, (Builtin.clear_ #[24] ty #[.slice (some ⟨g, 1, none⟩) p 5]).run Tryd.prog w = .ok (.tuple #[]) (w.setCells g 1 (List.replicate p (.int .i64 0))) := fun ty =>
    Lib.run_clear_slice w _ _ ty _ Tryd.underlying24 zeroInt rfl rfl g 1 p 5 (by omega) (fun j hj => by rw [h.cell (by omega)]; rfl) (fun j _ => h.frozen _)
  obtain ⟨hz, hgz⟩ := h.zero h1 hp
  have hT : (timesOf s p = 1 ∧ sumTo' s p = 0) ∨ (timesOf s p = sumTo' s p ∧ sumTo' s p ≠ 0) := by
    unfold timesOf
    split
    · rename_i e; exact .inl ⟨rfl, e⟩
    · rename_i e; exact .inr ⟨rfl, e⟩
  have hTp := times_pos hs (p := p) (by omega)
  have hTm := times_mul hs hp hb.1
  have hbd := hs.bd p
  have hTk : takeOn b s p = if 99999 / b.getD p 0 < timesOf s p then none else some ((zeroTo s p).set p (s.getD p 0 + timesOf s p * b.getD p 0)) := rfl
  have hzp : (zeroTo s p).getD p 0 = s.getD p 0 := by rw [getD_zeroTo _ _ _ (by have := hs.len; omega), if_neg (by omega)]
  have hc : w.cell? ⟨a2, o2 + p, none⟩ = some (.int .i64 (b.getD p 0)) := hc2 p hpb
  have hTb : timesOf s p ≤ 100000000 := by
    rcases hT with ⟨e, _⟩ | ⟨e, _⟩
    · omega
    · rw [e]
      have hp5 : (p : Int) ≤ 4 := by omega
      have : 100000 * (k : Int) * (p : Int) ≤ 5000000 * 4 := Int.mul_le_mul (by omega) hp5 (by omega) (by omega)
      omega
  have hu0 := h.base
  have fz := h.frozen 1
  generalize takeOn b s p = res at *
  generalize timesOf s p = T at *
  generalize sumTo' s p = t0 at *
  generalize s.getD p 0 = y at *
  generalize b.getD p 0 = bp at *
  generalize hzs : zeroTo s p = zs at *
  replace hzs := Lib.hid hzs
  replace hTk := Lib.hid hTk
  replace hz := Lib.hid hz
  replace hgz := Lib.hid hgz
  replace hT := Lib.hid hT
  replace hTm := Lib.hid hTm
  replace hzp := Lib.hid hzp
  clear hI hc2 hne hs h
  have pc : (p : Int) ≤ 5 := by omega
  have pc' : p ≤ 5 := by omega
  go_enter Tryd.func72, Tryd.ntmps72
  go_wp2_with (fail)
  refine KS.out.mono ?_
  rintro e w' ⟨rfl, rfl⟩
  clear KS
  go_upto_region 3 with (fail)
  generalize w.setCells g 1 (List.replicate p (.int .i64 0)) = W1 at *
  have hu1 := hz.out.base
  have hy1 := hz.out.cell (i := p) (by omega)
  rw [hzp.out] at hy1
  have fy1 := hz.out.frozen (1 + p)
  have hc1 : W1.cell? ⟨a2, o2 + p, none⟩ = some (.int .i64 bp) := (World.cell?_of_block (a := ⟨a2, o2 + p, none⟩) (hgz.out.block a2 hlt2 (fun e => hag (Option.some.inj e)))).trans hc
  have hset := fun v => hz.out.set_ (i := p) (by omega) v
  replace hset := Lib.hid hset
  clear hu0 fz hc HC
  go_upto_if 18 with (fail)
  go_cut [5] (fun s5 wx => s5 = .int .i64 T ∧ W1 = wx)
  case first =>
    rcases hT.out with ⟨e1, e2⟩ | ⟨e1, e2⟩
    · have hb0 : (t0 == 0) = true := by rw [beq_iff_eq]; exact e2
      replace e1 := Lib.hid e1
      clear e2
      go_wp2
      go_meet
      exact ⟨by rw [e1.out], rfl⟩
    · have hb0 : (t0 == 0) = false := by rw [beq_eq_false_iff_ne]; exact e2
      replace e1 := Lib.hid e1
      replace e2 := Lib.hid e2
      go_wp2
      go_meet
      exact ⟨by rw [e1.out], rfl⟩
  case rest =>
    obtain ⟨rfl, rfl⟩ := hcut
    have hbz : ¬ bp = 0 := by omega
    have hp0 : (p : Int) < 5 := by omega
    have hpl : (p : Int) < (b.length : Int) := by omega
    have hq : IntKind.i64.wrap ((99999 : Int).tdiv bp) = 99999 / bp := by
      have q1 := IntWalk.tdiv_le 99999 bp (by omega) (by omega)
      rw [Int.tdiv_eq_ediv_of_nonneg (by omega)]
      exact IntWalk.i64_in _ (by omega)
    by_cases hlt : 99999 / bp < T
    · have hn := hTk.out
      rw [if_pos hlt] at hn
      have hF : TakePost w g (.slice (some ⟨a2, o2, none⟩) b.length c2) res (.returned (.bool false)) W1 := ⟨hgz.out, .inl ⟨hn, rfl⟩⟩
      replace hF := Lib.hid hF
      clear hn
      go_wp2
      go_ret
      exact hF.out
    · have hn := hTk.out
      rw [if_neg hlt] at hn
      have hm := hTm.out (by omega)
      have w1 : IntKind.i64.wrap (T * bp) = T * bp := IntWalk.i64_in _ (by omega)
      have w2 : IntKind.i64.wrap (y + T * bp) = y + T * bp := IntWalk.i64_in _ (by omega)
      have hF : ∀ m, TakePost w g (.slice (some ⟨a2, o2, none⟩) b.length c2) res (.returned (.bool true)) ((W1.setCell ⟨g, 1 + p, none⟩ (.int .i64 (y + T * bp))).drewN m) := fun m =>
        ⟨grown_drewN (hgz.out.trans (grown_setCell _ _ _ _)) m, .inr ⟨_, hn, rfl, (hset.out _).drewN m⟩⟩
      replace hF := Lib.hid hF
      clear hn hm
      go_upto_region 7 with (fail)
      go_region
      all_goals
        go_wp2
        go_ret
        exact hF.out 1
end Go.Proofs.YteemgkabhkdeaaaDoor
