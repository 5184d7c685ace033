/-
  Contracts of the exact laws' marks in desks.
-/
import Derived.Test.YtjnlpknjdclalaaDHo
namespace Go.Proofs.Ytjnlpknjdclalaa
open Go.RowKit

def mkDk (d : Dk) : Dk := ⟨mkTg 1 d.t, d.now, marks (1 + d.t.us.length + d.t.bs.length + d.t.ns.length) d.past.length⟩
/-- A row that is none of a desk's. -/
def OffDk (v u : Value) : Prop := ∃ v1 v2 v3 x v5, v = .agg #[v1, v2, v3, x, v5] ∧ ∀ k, u.ownBlock = some k → v1.ownBlock ≠ some k ∧ v2.ownBlock ≠ some k ∧ v3.ownBlock ≠ some k ∧ v5.ownBlock ≠ some k
def LeavesD (v : Value) (w w' : World) : Prop := ∀ (u : Value) (B2 n2 : Nat) (e2 : TypeId) (xs2 : List Value), OffDk v u → w.ownsRow B2 e2 1 u n2 xs2 → w'.ownsRow B2 e2 1 u n2 xs2
def cntDk (d : Dk) : Int := 1 + d.t.us.length + d.t.bs.length + d.t.ns.length + d.past.length
def RetMarkedD (w : World) (B : Nat) (v : Value) (d : Dk) (e : Ending) (w' : World) : Prop :=
  e = .returned (.int .i64 (cntDk d)) ∧ OwnDk w' B v (mkDk d) ∧ Below B w w' ∧ LeavesD v w w'

theorem mkDk_past (d : Dk) : (mkDk d).past.length = d.past.length := marks_length _ _
set_option maxRecDepth 100000 in
set_option maxHeartbeats 2000000 in
theorem markDesk_any (v : Value) (d : Dk) (B : Nat) (w : World) (h : OwnDk w B v d) (hf : d.Fine) (hBw : B ≤ w.heap.size) :
    Calls Try.prog 20 #[v, .int .i64 1] w (RetMarkedD w B v d) := by
  obtain ⟨v1, v2, v3, v5, rfl, ht, h5, ap⟩ := h.ex
  obtain ⟨A1, c1, A2, c2, A3, c3, e⟩ := ht.shape
  cases e
  obtain ⟨A5, c5, rfl, -⟩ := h5.ints
  have hu := hf.t.us
  have hb := hf.t.bs
  have hn := hf.t.ns
  have hp := hf.past
  have hA := (Below.refl w.heap.size w).alloc (Nat.le_refl _) (.cells #[.slice A1 d.t.us.length c1, .slice A2 d.t.bs.length c2, .slice A3 d.t.ns.length c3, .int .i64 d.now, .slice A5 d.past.length c5] 28)
  have HX := Blk.new w 28 #[.slice A1 d.t.us.length c1, .slice A2 d.t.bs.length c2, .slice A3 d.t.ns.length c3, .int .i64 d.now, .slice A5 d.past.length c5]
  have HT := ht.below hA (Nat.le_refl _)
  have H5 := h5.below hA (Nat.le_refl _)
  have hBel : Below B w (w.alloc (.cells #[.slice A1 d.t.us.length c1, .slice A2 d.t.bs.length c2, .slice A3 d.t.ns.length c3, .int .i64 d.now, .slice A5 d.past.length c5] 28)) := hA.mono hBw
  have hOff : ∀ (u : Value) (B2 n2 : Nat) (e2 : TypeId) (xs2 : List Value), w.ownsRow B2 e2 1 u n2 xs2 → (w.alloc (.cells #[.slice A1 d.t.us.length c1, .slice A2 d.t.bs.length c2, .slice A3 d.t.ns.length c3, .int .i64 d.now, .slice A5 d.past.length c5] 28)).ownsRow B2 e2 1 u n2 xs2 := fun u B2 n2 e2 xs2 hr => World.ownsRow.alloc hr _
  have K1 := Lib.hid (markTongue_any _ d.t B 1 _ HT hf.t (by simp; omega) rfl)
  replace HX := Lib.hid HX
  replace HT := Lib.hid HT
  replace H5 := Lib.hid H5
  replace hBel := Lib.hid hBel
  replace hOff := Lib.hid hOff
  replace ap := Lib.hid ap
  have hcnt := Lib.hid (show cntDk d = 1 + d.t.us.length + d.t.bs.length + d.t.ns.length + d.past.length from rfl)
  clear h ht h5 hf hA
  go_enter Try.func20, Try.ntmps20
  go_upto_region 1 with (fail)
  generalize w.alloc (.cells #[.slice A1 d.t.us.length c1, .slice A2 d.t.bs.length c2, .slice A3 d.t.ns.length c3, .int .i64 d.now, .slice A5 d.past.length c5] 28) = W at *
  obtain ⟨x0, x1, x2, x3, x4⟩ := (blk5 HX.out).1
  have hszW := hBel.out.size
  go_wp2_with (fail)
  refine K1.out.mono ?_
  rintro e w1 ⟨rfl, o1, b1, q1⟩
  have hBel1 := hBel.out.trans b1
  -- the box of the desk and its row of numbers stand
  have hoffX : OffTng (.agg #[.slice A1 d.t.us.length c1, .slice A2 d.t.bs.length c2, .slice A3 d.t.ns.length c3]) (.slice (some ⟨w.heap.size, 0, none⟩) 5 5) := by
    obtain ⟨y1, y2, y3, ee, p1, p2, p3, -⟩ := HT.out.ex
    cases ee
    refine ⟨_, _, _, rfl, fun k hk => ?_⟩
    have hk' : w.heap.size = k := by simpa [Value.ownBlock] using hk
    subst hk'
    exact ⟨own_blk_ne p1 HX.out (by decide), own_blk_ne p2 HX.out (by decide), own_blk_ne p3 HX.out (by decide)⟩
  have hX1 := q1 _ w.heap.size 5 28 _ hoffX (owns_blk (B := w.heap.size) (n := 5) HX.out rfl (Nat.le_refl _) (by unfold maxLen; omega))
  have hoff5 : ∀ {u : Value}, u.ownBlock = (Value.slice A5 d.past.length c5).ownBlock → ∀ {n : Nat} {ys : List Value}, W.ownsRow B 3 1 u n ys → w1.ownsRow B 3 1 u n ys := fun {u} e {n ys} ho => by
    refine q1 u B n 3 ys ?_ ho
    obtain ⟨y1, y2, y3, ee, p1, p2, p3, -⟩ := HT.out.ex
    cases ee
    refine ⟨_, _, _, rfl, fun k hk => ⟨fun h1 => ?_, fun h1 => ?_, fun h1 => ?_⟩⟩
    · exact own_type_ne p1 ho (by decide) k h1 hk
    · exact ap.out k h1 (by rw [← e]; exact hk)
    · exact own_type_ne p3 ho (by decide) k h1 hk
  have H51 : TailI w1 B (.slice A5 d.past.length c5) d.past := by
    rcases H5.out.ex with ho | ⟨z, g, cap, ho, e⟩
    · exact ⟨.inl (hoff5 rfl ho)⟩
    · cases e
      exact ⟨.inr ⟨z, _, _, hoff5 (u := .slice (some ⟨_, 0, none⟩) (d.past.length + 1) (c5 + 1)) rfl ho, rfl⟩⟩
  have K2 := Lib.hid (markTail_any B _ d.past (1 + d.t.us.length + d.t.bs.length + d.t.ns.length) w1 H51 hp (by omega))
  have y0 : w1.cell? ⟨w.heap.size, 0, none⟩ = some (.slice A1 d.t.us.length c1) := World.ownsRow.cellAt hX1 0 (by omega)
  have y4 : w1.cell? ⟨w.heap.size, 4, none⟩ = some (.slice A5 d.past.length c5) := World.ownsRow.cellAt hX1 4 (by omega)
  replace o1 := Lib.hid o1
  replace q1 := Lib.hid q1
  replace hBel1 := Lib.hid hBel1
  replace H51 := Lib.hid H51
  have hBw1 := hBel1.out.size
  clear b1 x0 x1 x2 x3 x4 hoffX hX1 hoff5 K1
  go_wp2_with (fail)
  refine K2.out.mono ?_
  rintro e w2 ⟨rfl, o5, g5, hs5⟩
  have hOT : OwnTng w2 B (.agg #[.slice A1 d.t.us.length c1, .slice A2 d.t.bs.length c2, .slice A3 d.t.ns.length c3]) (mkTg 1 d.t) := by
    obtain ⟨y1, y2, y3, ee, p1, p2, p3, a13⟩ := o1.out.ex
    cases ee
    have hr5 : ∃ n ys, w1.ownsRow B 3 1 (.slice A5 d.past.length c5) n ys ∨ ∃ g cap, A5 = some ⟨g, 1, none⟩ ∧ w1.ownsRow B 3 1 (.slice (some ⟨g, 0, none⟩) n cap) n ys := by
      rcases H51.out.ex with ho | ⟨z, g, cap, ho, e⟩
      · exact ⟨_, _, .inl ho⟩
      · cases e; exact ⟨_, _, .inr ⟨_, _, rfl, ho⟩⟩
    have hty : ∀ {u : Value} {n : Nat} {ys : List Value}, w1.ownsRow B 9 1 u n ys → ∀ k, u.ownBlock = some k → (Value.slice A5 d.past.length c5).ownBlock ≠ some k := fun {u n ys} hu k hk he => by
      obtain ⟨n5, ys5, h | ⟨g, cap, rfl, h⟩⟩ := hr5
      · exact own_type_ne hu h (by decide) k hk he
      · exact own_type_ne hu h (by decide) k hk he
    exact ⟨_, _, _, rfl, own_off p1 g5 (hty p1), own_off p2 g5 (fun k hk e => ap.out k hk e), own_off p3 g5 (hty p3), a13⟩
  have hBel2 : Below B w w2 := by
    refine ⟨g5.os.trans hBel1.out.os, g5.tape.trans hBel1.out.tape, g5.output.trans hBel1.out.output, Nat.le_trans hBel1.out.size g5.size, fun k hk => ?_⟩
    refine (g5.block k (Nat.lt_of_lt_of_le hk (by omega)) (fun e => ?_)).trans (hBel1.out.block k hk)
    have := (H51.out.lt k e.symm).1
    omega
  have hLv : LeavesD (.agg #[.slice A1 d.t.us.length c1, .slice A2 d.t.bs.length c2, .slice A3 d.t.ns.length c3, .int .i64 d.now, .slice A5 d.past.length c5]) w w2 := fun u B2 n2 e2 xs2 ho hr => by
    obtain ⟨u1, u2, u3, x, u5, e, ho⟩ := ho
    cases e
    exact own_off (q1.out u B2 n2 e2 xs2 ⟨_, _, _, rfl, fun k hk => ⟨(ho k hk).1, (ho k hk).2.1, (ho k hk).2.2.1⟩⟩ (hOff.out u B2 n2 e2 xs2 hr)) g5 (fun k hk => (ho k hk).2.2.2)
  have hO : OwnDk w2 B (.agg #[.slice A1 d.t.us.length c1, .slice A2 d.t.bs.length c2, .slice A3 d.t.ns.length c3, .int .i64 d.now, .slice A5 d.past.length c5]) (mkDk d) := ⟨_, _, _, _, rfl, hOT, o5, ap.out⟩
  replace hBel2 := Lib.hid hBel2
  replace hLv := Lib.hid hLv
  replace hO := Lib.hid hO
  clear hOT g5 o5 y0 y4
  go_wp2
  go_ret
  exact ⟨rfl, hO.out, hBel2.out, hLv.out⟩

set_option maxRecDepth 100000 in
set_option maxHeartbeats 2000000 in
theorem heldDesk_any (v : Value) (d : Dk) (w : World) (h : Dsk w v (mkDk d)) (hf : d.Fine) :
    Calls Try.prog 21 #[v, .int .i64 1] w fun e w' => e = .returned (.int .i64 (cntDk d)) ∧ Below w.heap.size w w' := by
  obtain ⟨A1, c1, A2, c2, A3, c3, A5, c5, rfl, h1, h2, h3, h5⟩ := h.ex
  have hu := hf.t.us
  have hb := hf.t.bs
  have hn := hf.t.ns
  have hp := hf.past
  have hA := (Below.refl w.heap.size w).alloc (Nat.le_refl _) (.cells #[.slice A1 (mkDk d).t.us.length c1, .slice A2 (mkDk d).t.bs.length c2, .slice A3 (mkDk d).t.ns.length c3, .int .i64 (mkDk d).now, .slice A5 (mkDk d).past.length c5] 28)
  have HX := Blk.new w 28 #[.slice A1 (mkDk d).t.us.length c1, .slice A2 (mkDk d).t.bs.length c2, .slice A3 (mkDk d).t.ns.length c3, .int .i64 (mkDk d).now, .slice A5 (mkDk d).past.length c5]
  have HT : Tng (w.alloc (.cells #[.slice A1 (mkDk d).t.us.length c1, .slice A2 (mkDk d).t.bs.length c2, .slice A3 (mkDk d).t.ns.length c3, .int .i64 (mkDk d).now, .slice A5 (mkDk d).past.length c5] 28)) (.agg #[.slice A1 (mkDk d).t.us.length c1, .slice A2 (mkDk d).t.bs.length c2, .slice A3 (mkDk d).t.ns.length c3]) (mkTg 1 d.t) := ⟨A1, c1, A2, c2, A3, c3, rfl, h1.below hA (Nat.le_refl _), h2.below hA (Nat.le_refl _), h3.below hA (Nat.le_refl _)⟩
  have K1 := Lib.hid (heldTongue_any _ d.t _ HT hf.t)
  have K2 := Lib.hid (fun W (hb : Below w.heap.size w W) => heldIntS_any A5 d.past.length c5 (1 + d.t.us.length + d.t.bs.length + d.t.ns.length) W (by have hh := h5.below hb (Nat.le_refl _); rw [mkDk_past] at hh; exact hh) hp (by omega))
  have e5 := mkDk_past d
  rw [e5] at HX hA K1
  generalize (mkDk d).t.us.length = l1 at *
  generalize (mkDk d).t.bs.length = l2 at *
  generalize (mkDk d).t.ns.length = l3 at *
  generalize (mkDk d).now = l4 at *
  rw [e5]
  replace hA := Lib.hid hA
  replace HX := Lib.hid HX
  clear h h1 h2 h3 h5 hf HT e5
  have hcnt : cntDk d = 1 + d.t.us.length + d.t.bs.length + d.t.ns.length + d.past.length := rfl
  generalize cntDk d = cd at *
  replace hcnt := Lib.hid hcnt
  go_enter Try.func21, Try.ntmps21
  go_upto_region 1 with (fail)
  generalize w.alloc (.cells #[.slice A1 l1 c1, .slice A2 l2 c2, .slice A3 l3 c3, .int .i64 l4, .slice A5 d.past.length c5] 28) = W at *
  obtain ⟨x0, x1, x2, x3, x4⟩ := (blk5 HX.out).1
  go_wp2_with (fail)
  refine K1.out.mono ?_
  rintro e w1 ⟨rfl, b1⟩
  have hB1 := Lib.hid (hA.out.trans (b1.mono hA.out.size))
  have HX1 := HX.out.below b1 HX.out.lt
  clear x0 x1 x2 x3 x4 b1 K1 HX hA
  obtain ⟨x0, x1, x2, x3, x4⟩ := (blk5 HX1).1
  have g1 : ¬ (1 + (d.t.us.length : Int) + (d.t.bs.length : Int) + (d.t.ns.length : Int) < 0) := by omega
  have g2 : ¬ (1 + (d.t.us.length : Int) + (d.t.bs.length : Int) + (d.t.ns.length : Int) + (d.past.length : Int) < 0) := by omega
  have K3 := Lib.hid (K2.out _ hB1.out)
  clear HX1 K2
  go_wp2_with (fail)
  refine K3.out.mono ?_
  rintro e _ ⟨rfl, rfl⟩
  go_wp2
  go_ret
  exact ⟨ret_int hcnt.out.symm, hB1.out⟩
end Go.Proofs.Ytjnlpknjdclalaa
