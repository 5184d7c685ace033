/-
  Contracts of putBack and putInstead of the program.
-/
import Derived.Test.YtjnlpknjdclalaaIa
import Derived.Test.YtjnlpknjdclalaaDkL
namespace Go.Proofs.Ytjnlpknjdclalaa
open Go.RowKit

section
variable {w : World} {B g i : Nat} {v u : Value} {cs : Array Value} {t : Tg} {xs : List Int} {d : Dk}
theorem OwnTng.setD (h : OwnTng w B v t) (hb : Blk w g 28 cs) : OwnTng (w.setCell ⟨g, i, none⟩ u) B v t := by
  obtain ⟨v1, v2, v3, e, o1, o2, o3, a⟩ := h.ex
  exact ⟨v1, v2, v3, e, own_set o1 (own_blk_ne o1 hb (by decide)), own_set o2 (own_blk_ne o2 hb (by decide)), own_set o3 (own_blk_ne o3 hb (by decide)), a⟩
theorem OwnI.setD (h : OwnI w B v xs) (hb : Blk w g 28 cs) : OwnI (w.setCell ⟨g, i, none⟩ u) B v xs := own_set h (own_blk_ne h hb (by decide))
theorem OwnDkW.shape (h : OwnDkW w B v d) : ∃ A1 c1 A2 c2 A3 c3 A5 c5, v = .agg #[.slice A1 d.t.us.length c1, .slice A2 d.t.bs.length c2, .slice A3 d.t.ns.length c3, .int .i64 d.now, .slice A5 d.past.length c5] := by
  obtain ⟨A1, c1, A2, c2, A3, c3, A5, c5, e, -⟩ := h.own.dsk.ex
  exact ⟨A1, c1, A2, c2, A3, c3, A5, c5, e⟩
end
theorem own_offD {a b : World} {B n : Nat} {e : TypeId} {u : Value} {xs : List Value} {row : Option Nat} (h : a.ownsRow B e 1 u n xs) (hg : a.grownBy b row) (hne : ∀ k, u.ownBlock = some k → row ≠ some k) : b.ownsRow B e 1 u n xs := by
  refine h.kept hg ?_
  cases hv : u.ownBlock with
  | none => exact .inl rfl
  | some k => exact .inr fun e => hne k hv e.symm
/-- What putting a number back or another one in its place returns. -/
def RetPut (w : World) (B S : Nat) (r : Dk × Bool) (e : Ending) (w' : World) : Prop := ∃ v, e = .returned (.tuple #[v, .bool r.2]) ∧ OwnDk w' B v r.1 ∧ Below S w w'

set_option maxRecDepth 100000 in
set_option maxHeartbeats 4000000 in
theorem putBack_any (B : Nat) (v : Value) (d : Dk) (w : World) (h : OwnDkW w B v d) (hf : d.Fine) :
    Calls Try.prog 42 #[v] w (RetPut w B w.heap.size (backD d)) := by
  obtain ⟨A1, c1, A2, c2, A3, c3, A5, c5, rfl⟩ := h.shape
  obtain ⟨v1, v2, v3, v5, e, ht, h5, ap⟩ := h.ex
  cases e
  have hp := hf.past
  have hB := ((Below.refl w.heap.size w).alloc (Nat.le_refl _) (.cells #[.slice A1 d.t.us.length c1, .slice A2 d.t.bs.length c2, .slice A3 d.t.ns.length c3, .int .i64 d.now, .slice A5 d.past.length c5] 28)).alloc (by simp) (.cells #[.slice none 0 0, .slice none 0 0, .slice none 0 0, .int .i64 0, .slice none 0 0] 28)
  have HX := (Blk.new w 28 #[.slice A1 d.t.us.length c1, .slice A2 d.t.bs.length c2, .slice A3 d.t.ns.length c3, .int .i64 d.now, .slice A5 d.past.length c5]).alloc (.cells #[.slice none 0 0, .slice none 0 0, .slice none 0 0, .int .i64 0, .slice none 0 0] 28)
  have HZ : Blk ((w.alloc (.cells #[.slice A1 d.t.us.length c1, .slice A2 d.t.bs.length c2, .slice A3 d.t.ns.length c3, .int .i64 d.now, .slice A5 d.past.length c5] 28)).alloc (.cells #[.slice none 0 0, .slice none 0 0, .slice none 0 0, .int .i64 0, .slice none 0 0] 28)) (w.heap.size + 1) 28 #[.slice none 0 0, .slice none 0 0, .slice none 0 0, .int .i64 0, .slice none 0 0] := blk_new_at _ (by simp)
  have HT := ht.below hB (Nat.le_refl _)
  have H5 := h5.below hB (Nat.le_refl _)
  replace hB := Lib.hid hB
  replace HX := Lib.hid HX
  replace HZ := Lib.hid HZ
  replace HT := Lib.hid HT
  replace H5 := Lib.hid H5
  replace ap := Lib.hid ap
  clear h ht h5 hf
  go_enter Try.func42, Try.ntmps42
  go_upto_region 1 with (fail)
  generalize (w.alloc (.cells #[.slice A1 d.t.us.length c1, .slice A2 d.t.bs.length c2, .slice A3 d.t.ns.length c3, .int .i64 d.now, .slice A5 d.past.length c5] 28)).alloc (.cells #[.slice none 0 0, .slice none 0 0, .slice none 0 0, .int .i64 0, .slice none 0 0] 28) = W at *
  obtain ⟨⟨x0, x1, x2, x3, x4⟩, ⟨f0, f1, f2, f3, f4⟩⟩ := blk5 HX.out
  obtain ⟨⟨z0, z1, z2, z3, z4⟩, ⟨e0, e1, e2, e3, e4⟩⟩ := blk5 HZ.out
  by_cases h0 : 0 < d.past.length
  · have hback : backD d = (⟨d.t, d.past.getD (d.past.length - 1) 0, d.past.take (d.past.length - 1)⟩, true) := by unfold backD; rw [if_pos h0]
    obtain ⟨A, c, ee, hi⟩ := H5.out.ints
    cases ee
    obtain ⟨b, o, rfl, hbo, hc⟩ := hi.at_ h0
    have ck := hc (d.past.length - 1) (by omega)
    have hcap := hi.le
    have HTk := Lib.hid (H5.out.take (d.past.length - 1) (by omega))
    obtain ⟨m, hm⟩ : ∃ m, d.past.length = m + 1 := ⟨d.past.length - 1, by omega⟩
    have hm1 : d.past.length - 1 = m := by omega
    rw [hm1] at ck HTk hback
    have hlm : (d.past.take m).length = m := by rw [List.length_take]; omega
    generalize d.past.getD m 0 = x at *
    replace hback := Lib.hid hback
    have i0 : ((m : Int) + 1 - 1) = m := by omega
    have i1 : ((d.past.length : Int) - 1) = (m : Int) := by omega
    have i2 : IntKind.i64.wrap (m : Int) = (m : Int) := IntWalk.i64_in _ (by omega)
    have i3 : ¬ ((m : Int) < 0) := by omega
    have i4 : (0 : Int) ≤ (m : Int) := by omega
    have i5 : (m : Int) < (d.past.length : Int) := by omega
    have i6 : (m : Int) ≤ (c5 : Int) := by omega
    have XA := (HX.out.set_ 3 (.int .i64 x)).set_ 4 (.slice (some ⟨b, o, none⟩) m c5)
    simp at XA
    have ZA := (HZ.out.far (p := ⟨w.heap.size, 3, none⟩) (by simp) (.int .i64 x)).far (p := ⟨w.heap.size, 4, none⟩) (by simp) (.slice (some ⟨b, o, none⟩) m c5)
    have TA := (HT.out.setD (i := 3) (u := .int .i64 x) HX.out).setD (i := 4) (u := .slice (some ⟨b, o, none⟩) m c5) (HX.out.set_ 3 (.int .i64 x))
    have PA := (HTk.out.setD (i := 3) (u := .int .i64 x) HX.out).setD (i := 4) (u := .slice (some ⟨b, o, none⟩) m c5) (HX.out.set_ 3 (.int .i64 x))
    have BA := (hB.out.setCell (p := ⟨w.heap.size, 3, none⟩) (Nat.le_refl _) (.int .i64 x)).setCell (p := ⟨w.heap.size, 4, none⟩) (Nat.le_refl _) (.slice (some ⟨b, o, none⟩) m c5)
    replace XA := Lib.hid XA
    replace ZA := Lib.hid ZA
    replace TA := Lib.hid TA
    replace PA := Lib.hid PA
    replace BA := Lib.hid BA
    clear hi hc z0 z1 z2 z3 z4 e0 e1 e2 e3 e4
    go_upto_region 6 with (fail)
    generalize (W.setCell ⟨w.heap.size, 3, none⟩ (.int .i64 x)).setCell ⟨w.heap.size, 4, none⟩ (.slice (some ⟨b, o, none⟩) m c5) = V at *
    clear x0 x1 x2 x3 x4 f0 f1 f2 f3 f4 ck
    obtain ⟨⟨x0, x1, x2, x3, x4⟩, -⟩ := blk5 XA.out
    obtain ⟨⟨z0, z1, z2, z3, z4⟩, ⟨e0, e1, e2, e3, e4⟩⟩ := blk5 ZA.out
    have HF := fun u0 u1 u2 u3 u4 => own_dk5 (u0 := u0) (u1 := u1) (u2 := u2) (u3 := u3) (u4 := u4) (now := x) (d := ⟨d.t, x, d.past.take m⟩) rfl TA.out PA.out ap.out ZA.out
    have HG := fun u0 u1 u2 u3 u4 => below_dk5 (u0 := u0) (u1 := u1) (u2 := u2) (u3 := u3) (u4 := u4) (g := w.heap.size + 1) BA.out (by omega)
    replace HF := Lib.hid HF
    replace HG := Lib.hid HG
    clear XA ZA TA PA BA HX HZ HT H5 HTk
    go_wp2
    refine bodyPost_ret (v := .tuple #[.agg #[.slice A1 d.t.us.length c1, .slice A2 d.t.bs.length c2, .slice A3 d.t.ns.length c3, .int .i64 x, .slice (some ⟨b, o, none⟩) m c5], .bool true]) (by simp [results, Try.results42, go_sem, z0, z1, z2, z3, z4]) rfl ?_
    rw [hback.out]
    exact ⟨_, rfl, (HF.out _ _ _ _ _).own, HG.out _ _ _ _ _⟩
  · have hback := Lib.hid (show backD d = (d, false) by unfold backD; rw [if_neg h0])
    have hn0 : d.past.length = 0 := by omega
    have i3 : ((d.past.length : Int) - 1) = -1 := by omega
    have HF := fun u0 u1 u2 u3 u4 => own_dk5 (u0 := u0) (u1 := u1) (u2 := u2) (u3 := u3) (u4 := u4) (now := d.now) (d := d) rfl HT.out H5.out ap.out HZ.out
    have HG := fun u0 u1 u2 u3 u4 => below_dk5 (u0 := u0) (u1 := u1) (u2 := u2) (u3 := u3) (u4 := u4) (g := w.heap.size + 1) hB.out (by omega)
    replace HF := Lib.hid HF
    replace HG := Lib.hid HG
    replace hn0 := Lib.hid hn0
    clear HX HZ HT H5
    go_wp2
    refine bodyPost_ret (v := .tuple #[.agg #[.slice A1 d.t.us.length c1, .slice A2 d.t.bs.length c2, .slice A3 d.t.ns.length c3, .int .i64 d.now, .slice A5 d.past.length c5], .bool false]) (by simp [results, Try.results42, go_sem, z0, z1, z2, z3, z4]) rfl ?_
    rw [hback.out]
    exact ⟨_, rfl, (HF.out _ _ _ _ _).own, HG.out _ _ _ _ _⟩

set_option maxRecDepth 100000 in
set_option maxHeartbeats 8000000 in
theorem putInstead_any (B : Nat) (v : Value) (d : Dk) (m : Int) (w : World) (h : OwnDkW w B v d) (hf : d.Fine) (hBw : B ≤ w.heap.size) (hl : d.past.length ≤ 8) (hm : -9223372036854775808 ≤ m ∧ m ≤ 9223372036854775807) :
    Calls Try.prog 43 #[v, .int .i64 m] w (RetPut w B B (putD d m)) := by
  obtain ⟨A1, c1, A2, c2, A3, c3, A5, c5, rfl⟩ := h.shape
  obtain ⟨v1, v2, v3, v5, e, ht, h5, ap⟩ := h.ex
  cases e
  obtain ⟨i0, hi, hz0, hz1, hz2⟩ := info_parts int_info0
  have hB := ((Below.refl w.heap.size w).alloc (Nat.le_refl _) (.cells #[.slice A1 d.t.us.length c1, .slice A2 d.t.bs.length c2, .slice A3 d.t.ns.length c3, .int .i64 d.now, .slice A5 d.past.length c5] 28)).alloc (by simp) (.cells #[.slice none 0 0, .slice none 0 0, .slice none 0 0, .int .i64 0, .slice none 0 0] 28)
  have HX := (Blk.new w 28 #[.slice A1 d.t.us.length c1, .slice A2 d.t.bs.length c2, .slice A3 d.t.ns.length c3, .int .i64 d.now, .slice A5 d.past.length c5]).alloc (.cells #[.slice none 0 0, .slice none 0 0, .slice none 0 0, .int .i64 0, .slice none 0 0] 28)
  have HZ : Blk ((w.alloc (.cells #[.slice A1 d.t.us.length c1, .slice A2 d.t.bs.length c2, .slice A3 d.t.ns.length c3, .int .i64 d.now, .slice A5 d.past.length c5] 28)).alloc (.cells #[.slice none 0 0, .slice none 0 0, .slice none 0 0, .int .i64 0, .slice none 0 0] 28)) (w.heap.size + 1) 28 #[.slice none 0 0, .slice none 0 0, .slice none 0 0, .int .i64 0, .slice none 0 0] := blk_new_at _ (by simp)
  have HT := ht.below hB (Nat.le_refl _)
  have H5 := h5.below hB (Nat.le_refl _)
  have KN := Lib.hid (fun W (hb : Below w.heap.size w W) => hasName_any (.agg #[.slice A1 d.t.us.length c1, .slice A2 d.t.bs.length c2, .slice A3 d.t.ns.length c3]) d.t m W (ht.tng.below hb (Nat.le_refl _)) hf.t hm)
  replace hB := Lib.hid hB
  replace HX := Lib.hid HX
  replace HZ := Lib.hid HZ
  replace HT := Lib.hid HT
  replace H5 := Lib.hid H5
  replace ap := Lib.hid ap
  have hno := Lib.hid (put_no (d := d) (m := m))
  have hyes := Lib.hid (put_yes (d := d) (m := m))
  clear h ht h5 hf
  go_enter Try.func43, Try.ntmps43
  go_upto_region 1 with (fail)
  generalize (w.alloc (.cells #[.slice A1 d.t.us.length c1, .slice A2 d.t.bs.length c2, .slice A3 d.t.ns.length c3, .int .i64 d.now, .slice A5 d.past.length c5] 28)).alloc (.cells #[.slice none 0 0, .slice none 0 0, .slice none 0 0, .int .i64 0, .slice none 0 0] 28) = W at *
  obtain ⟨⟨x0, x1, x2, x3, x4⟩, ⟨f0, f1, f2, f3, f4⟩⟩ := blk5 HX.out
  obtain ⟨⟨z0, z1, z2, z3, z4⟩, ⟨e0, e1, e2, e3, e4⟩⟩ := blk5 HZ.out
  by_cases hmn : m = d.now
  · have hput := Lib.hid (hno.out (fun hh => hh.2 hmn))
    have hmb : (m == d.now) = true := by simpa using hmn
    have HF := fun u0 u1 u2 u3 u4 => own_dk5 (u0 := u0) (u1 := u1) (u2 := u2) (u3 := u3) (u4 := u4) (now := d.now) (d := d) rfl HT.out H5.out ap.out HZ.out
    have HG := fun u0 u1 u2 u3 u4 => below_dk5 (u0 := u0) (u1 := u1) (u2 := u2) (u3 := u3) (u4 := u4) (g := w.heap.size + 1) hB.out (by omega)
    replace HF := Lib.hid HF
    replace HG := Lib.hid HG
    subst hmn
    clear HX HZ HT H5 KN hno hyes
    go_wp2
    refine bodyPost_ret (v := .tuple #[.agg #[.slice A1 d.t.us.length c1, .slice A2 d.t.bs.length c2, .slice A3 d.t.ns.length c3, .int .i64 d.now, .slice A5 d.past.length c5], .bool false]) (by simp [results, Try.results43, go_sem, z0, z1, z2, z3, z4]) rfl ?_
    rw [hput.out]
    exact ⟨_, rfl, (HF.out _ _ _ _ _).own, (HG.out _ _ _ _ _).mono hBw⟩
  · have hmb : (m == d.now) = false := by simpa using hmn
    have K := Lib.hid (KN.out W hB.out)
    go_wp2_with (fail)
    refine K.out.mono ?_
    rintro e w1 ⟨rfl, b1⟩
    have hB1 := Lib.hid (hB.out.trans (b1.mono hB.out.size))
    have HX1 := Lib.hid (HX.out.below b1 HX.out.lt)
    have HZ1 := Lib.hid (HZ.out.below b1 HZ.out.lt)
    have HT1 := Lib.hid (HT.out.below b1 (Nat.le_refl _))
    have H51 := Lib.hid (H5.out.below b1 (Nat.le_refl _))
    have hs1 := b1.size
    have hgW := HZ.out.lt
    clear b1 x0 x1 x2 x3 x4 f0 f1 f2 f3 f4 z0 z1 z2 z3 z4 e0 e1 e2 e3 e4 K KN HX HZ HT H5 hB
    obtain ⟨⟨x0, x1, x2, x3, x4⟩, ⟨f0, f1, f2, f3, f4⟩⟩ := blk5 HX1.out
    obtain ⟨⟨z0, z1, z2, z3, z4⟩, ⟨e0, e1, e2, e3, e4⟩⟩ := blk5 HZ1.out
    cases hnb : namedB d.t m
    · have hput := Lib.hid (hno.out (fun hh => by rw [hnb] at hh; exact absurd hh.1 (by simp)))
      have HF := fun u0 u1 u2 u3 u4 => own_dk5 (u0 := u0) (u1 := u1) (u2 := u2) (u3 := u3) (u4 := u4) (now := d.now) (d := d) rfl HT1.out H51.out ap.out HZ1.out
      have HG := fun u0 u1 u2 u3 u4 => below_dk5 (u0 := u0) (u1 := u1) (u2 := u2) (u3 := u3) (u4 := u4) (g := w.heap.size + 1) hB1.out (by omega)
      replace HF := Lib.hid HF
      replace HG := Lib.hid HG
      clear HX1 HZ1 HT1 H51 hno hyes hnb
      go_wp2
      refine bodyPost_ret (v := .tuple #[.agg #[.slice A1 d.t.us.length c1, .slice A2 d.t.bs.length c2, .slice A3 d.t.ns.length c3, .int .i64 d.now, .slice A5 d.past.length c5], .bool false]) (by simp [results, Try.results43, go_sem, z0, z1, z2, z3, z4]) rfl ?_
      rw [hput.out]
      exact ⟨_, rfl, (HF.out _ _ _ _ _).own, (HG.out _ _ _ _ _).mono hBw⟩
    · have hput := Lib.hid (hyes.out ⟨hnb, hmn⟩)
      have hA := (Below.refl w1.heap.size w1).alloc (Nat.le_refl _) (.cells #[.int .i64 d.now] 3)
      have hL : Blk (w1.alloc (.cells #[.int .i64 d.now] 3)) w1.heap.size 3 #[.int .i64 d.now] := Blk.new _ _ _
      have hB2 := hB1.out.trans (hA.mono hB1.out.size)
      have HX2 := HX1.out.below hA HX1.out.lt
      have HZ2 := HZ1.out.below hA HZ1.out.lt
      have HT2 := HT1.out.below hA (Nat.le_refl _)
      have H52 := H51.out.below hA (Nat.le_refl _)
      have hsz2 : (w1.alloc (.cells #[.int .i64 d.now] 3)).heap.size = w1.heap.size + 1 := by simp
      replace hL := Lib.hid (Src.one hL rfl)
      replace hB2 := Lib.hid hB2
      replace HX2 := Lib.hid HX2
      replace HZ2 := Lib.hid HZ2
      replace HT2 := Lib.hid HT2
      replace H52 := Lib.hid H52
      have k1 := Lib.hid (show d.past.length + 1 ≤ maxLen by unfold maxLen; omega)
      have k2 := Lib.hid (show (d.past.length + 1) * 8 ≤ 140737488355328 by omega)
      have k3 := Lib.hid (show B ≤ (w1.alloc (.cells #[.int .i64 d.now] 3)).heap.size by rw [hsz2]; have := hB1.out.size; omega)
      have hsz3 := Lib.hid hsz2
      clear hA hno hyes hnb z0 z1 z2 z3 z4 e0 e1 e2 e3 e4 HX1 HZ1 HT1 H51 hB1 hsz2
      go_wp2_with (at_builtin; refine wpList_app _ rfl (.tmp 19) (.tmp 22) _ rfl B 3 i0 _ 8 Try.underlying24 hi hz0 hz1 hz2 rfl (.slice A5 d.past.length c5) d.past.length (d.past.map (Value.int .i64)) rfl H52.out (some ⟨w1.heap.size, 0, none⟩) 1 1 _ rfl hL.out k1.out k2.out k3.out ?_; intro v6 w6 ho6 hg6 hat6; refine Hid.out ?_)
      obtain ⟨g6, c6, rfl, hg6B, hg6w⟩ := World.ownsRow.form ho6 (by omega)
      have hne5 := own_blk_ne H52.out HX2.out (by decide)
      have hneZ := own_blk_ne H52.out HZ2.out (by decide)
      have HX3 := HX2.out.grown hg6 (fun e => hne5 e.symm)
      have HZ3 := HZ2.out.grown hg6 (fun e => hneZ e.symm)
      have hB3 : Below B w w6 := below_own (hB2.out.mono hBw) H52.out hg6 k3.out (Nat.le_refl _)
      have ap2 : ∀ k, (Value.slice A2 d.t.bs.length c2).ownBlock = some k → (Value.slice (some ⟨g6, 0, none⟩) (d.past.length + 1) c6).ownBlock ≠ some k := fun k hk he => by
        obtain ⟨y1, y2, y3, ee, -, o2, -, -⟩ := HT2.out.ex
        cases ee
        rcases hat6 with h | h
        · rw [h] at he; exact ap.out k hk he
        · rw [h] at he; have := (World.ownsRow.lt o2 k hk).2; injection he with he; omega
      have HT3 : OwnTng w6 B (.agg #[.slice A1 d.t.us.length c1, .slice A2 d.t.bs.length c2, .slice A3 d.t.ns.length c3]) d.t := by
        obtain ⟨y1, y2, y3, ee, o1, o2, o3, a13⟩ := HT2.out.ex
        cases ee
        exact ⟨_, _, _, rfl, own_offD o1 hg6 (fun k hk e => own_type_ne o1 H52.out (by decide) k hk e), own_offD o2 hg6 (fun k hk e => ap.out k hk e), own_offD o3 hg6 (fun k hk e => own_type_ne o3 H52.out (by decide) k hk e), a13⟩
      have H53 : OwnI w6 B (.slice (some ⟨g6, 0, none⟩) (d.past.length + 1) c6) (d.past ++ [d.now]) := by
        unfold OwnI
        rw [List.length_append, List.length_singleton, List.map_append]
        exact ho6
      have hc6 : d.past.length + 1 ≤ c6 := by
        obtain ⟨A, c, ee, hii⟩ := H53.ints
        simp only [Value.slice.injEq] at ee
        obtain ⟨rfl, -, rfl⟩ := ee
        have := hii.le
        rw [List.length_append, List.length_singleton] at this; exact this
      have hsB := hB3.size
      have hszw : w.heap.size ≤ w6.heap.size := hsB
      replace HX3 := Lib.hid HX3
      replace HZ3 := Lib.hid HZ3
      replace HT3 := Lib.hid HT3
      replace H53 := Lib.hid H53
      replace hB3 := Lib.hid hB3
      replace ap2 := Lib.hid ap2
      clear ho6 hg6 hat6 hne5 hneZ HX2 HZ2 HT2 H52 hB2 hL ap x0 x1 x2 x3 x4 f0 f1 f2 f3 f4
      obtain ⟨⟨x0, x1, x2, x3, x4⟩, ⟨f0, f1, f2, f3, f4⟩⟩ := blk5 HX3.out
      have q1 : ((d.past.length : Int) + 1 - 8) = (d.past.length : Int) - 7 := by omega
      have q2 : IntKind.i64.wrap ((d.past.length : Int) - 7) = (d.past.length : Int) - 7 := IntWalk.i64_in _ (by omega)
      have q3 : IntKind.i64.wrap ((d.past.length : Int) + 1 - 8) = (d.past.length : Int) + 1 - 8 := IntWalk.i64_in _ (by omega)
      have q4 : ((d.past.length + 1 : Nat) : Int) = (d.past.length : Int) + 1 := by omega
      by_cases h8 : d.past.length = 8
      · have g1 : (d.past.length : Int) - 7 = 1 := by omega
        have g2 : max (0 : Int) 1 = 1 := by decide
        have g3 : (1 : Int) ≤ (c6 : Int) := by omega
        have g4 : ¬ c6 = 1 := by omega
        have g5 : (1 : Int) ≤ (d.past.length : Int) + 1 := by omega
        have g6' : (d.past.length : Int) + 1 ≤ (c6 : Int) := by omega
        have g7 : d.past.length + 1 - 1 = d.past.length := by omega
        replace h8 := Lib.hid h8
        have XA := (HX3.out.set_ 4 (.slice (some ⟨g6, 0, none⟩) (d.past.length + 1) c6)).set_ 4 (.slice (some ⟨g6, 1, none⟩) d.past.length (c6 - 1))
        have XB := XA.set_ 3 (.int .i64 m)
        simp at XB
        have ZA := ((HZ3.out.far (p := ⟨w.heap.size, 4, none⟩) (by simp) (.slice (some ⟨g6, 0, none⟩) (d.past.length + 1) c6)).far (p := ⟨w.heap.size, 4, none⟩) (by simp) (.slice (some ⟨g6, 1, none⟩) d.past.length (c6 - 1))).far (p := ⟨w.heap.size, 3, none⟩) (by simp) (.int .i64 m)
        have hX1 := HX3.out.set_ 4 (.slice (some ⟨g6, 0, none⟩) (d.past.length + 1) c6)
        have TA := ((HT3.out.setD (i := 4) (u := .slice (some ⟨g6, 0, none⟩) (d.past.length + 1) c6) HX3.out).setD (i := 4) (u := .slice (some ⟨g6, 1, none⟩) d.past.length (c6 - 1)) hX1).setD (i := 3) (u := .int .i64 m) XA
        have PA := ((H53.out.setD (i := 4) (u := .slice (some ⟨g6, 0, none⟩) (d.past.length + 1) c6) HX3.out).setD (i := 4) (u := .slice (some ⟨g6, 1, none⟩) d.past.length (c6 - 1)) hX1).setD (i := 3) (u := .int .i64 m) XA
        have BA := ((hB3.out.setCell (p := ⟨w.heap.size, 4, none⟩) hBw (.slice (some ⟨g6, 0, none⟩) (d.past.length + 1) c6)).setCell (p := ⟨w.heap.size, 4, none⟩) hBw (.slice (some ⟨g6, 1, none⟩) d.past.length (c6 - 1))).setCell (p := ⟨w.heap.size, 3, none⟩) hBw (.int .i64 m)
        replace XB := Lib.hid XB
        replace ZA := Lib.hid ZA
        replace TA := Lib.hid TA
        replace PA := Lib.hid PA
        replace BA := Lib.hid BA
        clear XA hX1 HX3 HZ3 HT3 H53 hB3
        refine Lib.hid ?_
        go_upto_region 6 with (fail)
        generalize ((w6.setCell ⟨w.heap.size, 4, none⟩ (.slice (some ⟨g6, 0, none⟩) (d.past.length + 1) c6)).setCell ⟨w.heap.size, 4, none⟩ (.slice (some ⟨g6, 1, none⟩) d.past.length (c6 - 1))).setCell ⟨w.heap.size, 3, none⟩ (.int .i64 m) = V at *
        clear x0 x1 x2 x3 x4 f0 f1 f2 f3 f4
        obtain ⟨⟨x0, x1, x2, x3, x4⟩, -⟩ := blk5 XB.out
        obtain ⟨⟨z0, z1, z2, z3, z4⟩, ⟨e0, e1, e2, e3, e4⟩⟩ := blk5 ZA.out
        have hxl : ((d.past ++ [d.now]).drop (d.past.length + 1 - 8)).length = d.past.length := by have h8' := h8.out; rw [List.length_drop, List.length_append, List.length_singleton]; omega
        have PT : TailI V B (.slice (some ⟨g6, 1, none⟩) d.past.length (c6 - 1)) ((d.past ++ [d.now]).drop (d.past.length + 1 - 8)) := by
          have h8 := h8.out
          obtain ⟨z, r, er⟩ : ∃ z r, d.past = z :: r := by
            cases hp : d.past with
            | nil => rw [hp] at h8; simp at h8
            | cons z r => exact ⟨z, r, rfl⟩
          have hd1 : (d.past ++ [d.now]).drop (d.past.length + 1 - 8) = r ++ [d.now] := by rw [h8, er]; rfl
          have hc : c6 - 1 + 1 = c6 := by omega
          refine ⟨.inr ⟨z, g6, c6 - 1, ?_, by rw [hxl]⟩⟩
          have hz : (z :: (d.past ++ [d.now]).drop (d.past.length + 1 - 8)) = d.past ++ [d.now] := by rw [hd1, er]; rfl
          rw [hz, hxl, hc]
          exact PA.out
        have HD : OwnDk V B (.agg #[.slice A1 d.t.us.length c1, .slice A2 d.t.bs.length c2, .slice A3 d.t.ns.length c3, .int .i64 m, .slice (some ⟨g6, 1, none⟩) d.past.length (c6 - 1)]) ⟨d.t, m, (d.past ++ [d.now]).drop (d.past.length + 1 - 8)⟩ := ⟨_, _, _, _, rfl, TA.out, PT, ap2.out⟩
        have HF := fun u0 u1 u2 u3 u4 => own_dk5t (u0 := u0) (u1 := u1) (u2 := u2) (u3 := u3) (u4 := u4) (d := ⟨d.t, m, (d.past ++ [d.now]).drop (d.past.length + 1 - 8)⟩) HD ZA.out
        clear PT HD
        have HG := fun u0 u1 u2 u3 u4 => below_dk5 (u0 := u0) (u1 := u1) (u2 := u2) (u3 := u3) (u4 := u4) (g := w.heap.size + 1) BA.out (by omega)
        replace HF := Lib.hid HF
        replace HG := Lib.hid HG
        clear XB ZA TA PA BA
        go_wp2
        refine bodyPost_ret (v := .tuple #[.agg #[.slice A1 d.t.us.length c1, .slice A2 d.t.bs.length c2, .slice A3 d.t.ns.length c3, .int .i64 m, .slice (some ⟨g6, 1, none⟩) d.past.length (c6 - 1)], .bool true]) (by simp [results, Try.results43, go_sem, z0, z1, z2, z3, z4]) rfl ?_
        rw [hput.out]
        exact ⟨_, rfl, HF.out _ _ _ _ _, HG.out _ _ _ _ _⟩
      · have g1 : (d.past.length : Int) - 7 ≤ 0 := by omega
        have g2 : max (0 : Int) ((d.past.length : Int) - 7) = 0 := by omega
        have g3 : (0 : Int) ≤ (c6 : Int) := by omega
        have g4 : ¬ c6 = 0 := by omega
        have g5 : (0 : Int) ≤ (d.past.length : Int) + 1 := by omega
        have g6' : (d.past.length : Int) + 1 ≤ (c6 : Int) := by omega
        have XA := (HX3.out.set_ 4 (.slice (some ⟨g6, 0, none⟩) (d.past.length + 1) c6)).set_ 4 (.slice (some ⟨g6, 0, none⟩) (d.past.length + 1) c6)
        have XB := XA.set_ 3 (.int .i64 m)
        simp at XB
        have ZA := ((HZ3.out.far (p := ⟨w.heap.size, 4, none⟩) (by simp) (.slice (some ⟨g6, 0, none⟩) (d.past.length + 1) c6)).far (p := ⟨w.heap.size, 4, none⟩) (by simp) (.slice (some ⟨g6, 0, none⟩) (d.past.length + 1) c6)).far (p := ⟨w.heap.size, 3, none⟩) (by simp) (.int .i64 m)
        have hX1 := HX3.out.set_ 4 (.slice (some ⟨g6, 0, none⟩) (d.past.length + 1) c6)
        have TA := ((HT3.out.setD (i := 4) (u := .slice (some ⟨g6, 0, none⟩) (d.past.length + 1) c6) HX3.out).setD (i := 4) (u := .slice (some ⟨g6, 0, none⟩) (d.past.length + 1) c6) hX1).setD (i := 3) (u := .int .i64 m) XA
        have PA := ((H53.out.setD (i := 4) (u := .slice (some ⟨g6, 0, none⟩) (d.past.length + 1) c6) HX3.out).setD (i := 4) (u := .slice (some ⟨g6, 0, none⟩) (d.past.length + 1) c6) hX1).setD (i := 3) (u := .int .i64 m) XA
        have BA := ((hB3.out.setCell (p := ⟨w.heap.size, 4, none⟩) hBw (.slice (some ⟨g6, 0, none⟩) (d.past.length + 1) c6)).setCell (p := ⟨w.heap.size, 4, none⟩) hBw (.slice (some ⟨g6, 0, none⟩) (d.past.length + 1) c6)).setCell (p := ⟨w.heap.size, 3, none⟩) hBw (.int .i64 m)
        replace XB := Lib.hid XB
        replace ZA := Lib.hid ZA
        replace TA := Lib.hid TA
        replace PA := Lib.hid PA
        replace BA := Lib.hid BA
        clear XA hX1 HX3 HZ3 HT3 H53 hB3
        refine Lib.hid ?_
        go_upto_region 6 with (fail)
        generalize ((w6.setCell ⟨w.heap.size, 4, none⟩ (.slice (some ⟨g6, 0, none⟩) (d.past.length + 1) c6)).setCell ⟨w.heap.size, 4, none⟩ (.slice (some ⟨g6, 0, none⟩) (d.past.length + 1) c6)).setCell ⟨w.heap.size, 3, none⟩ (.int .i64 m) = V at *
        clear x0 x1 x2 x3 x4 f0 f1 f2 f3 f4
        obtain ⟨⟨x0, x1, x2, x3, x4⟩, -⟩ := blk5 XB.out
        obtain ⟨⟨z0, z1, z2, z3, z4⟩, ⟨e0, e1, e2, e3, e4⟩⟩ := blk5 ZA.out
        have hxd : (d.past ++ [d.now]).drop (d.past.length + 1 - 8) = d.past ++ [d.now] := by rw [show d.past.length + 1 - 8 = 0 by omega]; rfl
        have HF := fun u0 u1 u2 u3 u4 => (own_dk5 (u0 := u0) (u1 := u1) (u2 := u2) (u3 := u3) (u4 := u4) (now := m) (d := ⟨d.t, m, (d.past ++ [d.now]).drop (d.past.length + 1 - 8)⟩) rfl TA.out (by rw [hxd]; exact PA.out) ap2.out ZA.out).own
        clear hxd
        have HG := fun u0 u1 u2 u3 u4 => below_dk5 (u0 := u0) (u1 := u1) (u2 := u2) (u3 := u3) (u4 := u4) (g := w.heap.size + 1) BA.out (by omega)
        replace HF := Lib.hid HF
        replace HG := Lib.hid HG
        clear XB ZA TA PA BA
        go_wp2
        refine bodyPost_ret (v := .tuple #[.agg #[.slice A1 d.t.us.length c1, .slice A2 d.t.bs.length c2, .slice A3 d.t.ns.length c3, .int .i64 m, .slice (some ⟨g6, 0, none⟩) (d.past.length + 1) c6], .bool true]) (by simp [results, Try.results43, go_sem, z0, z1, z2, z3, z4]) rfl ?_
        rw [hput.out]
        exact ⟨_, rfl, HF.out _ _ _ _ _, HG.out _ _ _ _ _⟩
end Go.Proofs.Ytjnlpknjdclalaa
