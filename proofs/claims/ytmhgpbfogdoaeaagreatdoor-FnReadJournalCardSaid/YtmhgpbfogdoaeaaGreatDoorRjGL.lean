/-
  GL: Ja Jb Jc Jd Jn.
-/
import Derived.Test.YtmhgpbfogdoaeaaGreatDoorRjGK
import Derived.Test.YtmhgpbfogdoaeaaGreatDoorRjGN
import Derived.StillTailTactics
import Derived.Test.YtmhgpbfogdoaeaaGreatDoorRjInv
import Derived.Test.YtmhgpbfogdoaeaaGreatDoorRjGI
/- Ja -/
namespace Go.Proofs.YtmhgpbfogdoaeaaGreatDoor
open Go.RowKit

theorem fits_at' {xs : List Int} (h : Fits xs) (k : Nat) : -9223372036854775808 ≤ xs.getD k 0 ∧ xs.getD k 0 ≤ 9223372036854775807 := by
  have := h k; omega
theorem sok_no_now {d : Dk} (h : namedB d.t d.now = false) : dkOk d = false := by unfold dkOk; rw [h]; rfl
theorem sok_no_long {d : Dk} (h : ¬ d.past.length ≤ 8) : dkOk d = false := by unfold dkOk; rw [decide_eq_false h]; simp
theorem sok_no_past {d : Dk} {k : Nat} (hk : k < d.past.length) (h : namedB d.t (d.past.getD k 0) = false) : dkOk d = false := by
  cases hb : dkOk d
  · rfl
  · have := ((dkOk_iff d).1 hb).2.1 _ (getD_memW hk)
    rw [h] at this; cases this
theorem sok_all {d : Dk} (h1 : namedB d.t d.now = true) (h2 : d.past.length ≤ 8) (h3 : ∀ j, j < d.past.length → namedB d.t (d.past.getD j 0) = true) : dkOk d = true :=
  (dkOk_iff d).2 ⟨h1, fun x hx => by
    obtain ⟨j, hj, rfl⟩ := List.mem_iff_getElem.1 hx
    have := h3 j hj
    simpa [List.getD_eq_getElem?_getD, hj] using this, h2⟩

set_option maxRecDepth 100000 in
set_option maxHeartbeats 2000000 in
theorem specDeskOk_any (v : Value) (d : Dk) (w : World) (h : Dsk w v d) (hf : d.Fine) :
    Calls Tryz.prog 13 #[v] w fun e w' => e = .returned (.bool (dkOk d)) ∧ Below w.heap.size w w' := by
  obtain ⟨A1, c1, A2, c2, A3, c3, A5, c5, rfl, h1, h2, h3, h5⟩ := h.ex
  have hB := (Below.refl w.heap.size w).alloc (Nat.le_refl _) (.cells #[.slice A1 d.t.us.length c1, .slice A2 d.t.bs.length c2, .slice A3 d.t.ns.length c3, .int .i64 d.now, .slice A5 d.past.length c5] 33)
  have HX := Blk.new w 33 #[.slice A1 d.t.us.length c1, .slice A2 d.t.bs.length c2, .slice A3 d.t.ns.length c3, .int .i64 d.now, .slice A5 d.past.length c5]
  have HT : Tng (w.alloc (.cells #[.slice A1 d.t.us.length c1, .slice A2 d.t.bs.length c2, .slice A3 d.t.ns.length c3, .int .i64 d.now, .slice A5 d.past.length c5] 33)) (.agg #[.slice A1 d.t.us.length c1, .slice A2 d.t.bs.length c2, .slice A3 d.t.ns.length c3]) d.t := ⟨A1, c1, A2, c2, A3, c3, rfl, h1.below hB (Nat.le_refl _), h2.below hB (Nat.le_refl _), h3.below hB (Nat.le_refl _)⟩
  have H5 := h5.below hB (Nat.le_refl _)
  have hn1 := Lib.hid (sok_no_now (d := d))
  have hn2 := Lib.hid (sok_no_long (d := d))
  have hn3 := Lib.hid (fun k => sok_no_past (d := d) (k := k))
  have hyes := Lib.hid (sok_all (d := d))
  have hfa := Lib.hid (fits_at' hf.fits)
  have hnow := Lib.hid hf.now
  have hft := Lib.hid hf.t
  have hpl := hf.past
  replace hB := Lib.hid hB
  replace HX := Lib.hid HX
  replace HT := Lib.hid HT
  replace H5 := Lib.hid H5
  clear h h1 h2 h3 h5 hf
  go_enter Tryz.func13, Tryz.ntmps13
  go_upto_region 1 with (fail)
  generalize w.alloc (.cells #[.slice A1 d.t.us.length c1, .slice A2 d.t.bs.length c2, .slice A3 d.t.ns.length c3, .int .i64 d.now, .slice A5 d.past.length c5] 33) = W at *
  have hXc := Lib.hid (fun W' (b : Below W.heap.size W W') => (blk5 (HX.out.below b HX.out.lt)).1)
  have hN := Lib.hid (fun n (hn : -9223372036854775808 ≤ n ∧ n ≤ 9223372036854775807) W' (b : Below W.heap.size W W') => specNameOf_any _ d.t n W' (HT.out.below b (Nat.le_refl _)) hft.out hn)
  obtain ⟨x0, x1, x2, x3, x4⟩ := hXc.out _ (Below.refl W.heap.size W)
  go_wp2
  go_loopw [3] (fun i wr => ∃ k : Nat, k ≤ d.past.length ∧ i = .int .i64 k ∧ (∀ j, j < k → namedB d.t (d.past.getD j 0) = true) ∧ Below W.heap.size W wr) (fun i _ => d.past.length - (intOf i).toNat)
  case atStart => exact ⟨0, Nat.zero_le _, rfl, fun j hj => absurd hj (by omega), Below.refl _ _⟩
  case round =>
    obtain ⟨k, hk, rfl, hj, hD⟩ := hrel
    clear x0 x1 x2 x3 x4
    obtain ⟨x0, x1, x2, x3, x4⟩ := hXc.out _ hD
    by_cases hlt : k < d.past.length
    · obtain ⟨b, o, rfl, hbo, hc⟩ := H5.out.at_ (by omega)
      have ck := (hD.cell (p := ⟨b, o + k, none⟩) hbo).trans (hc k hlt)
      have hD' := hD.drew
      have hno := Lib.hid (hn3.out k hlt)
      have HJ : namedB d.t (d.past.getD k 0) = true → ∀ j, j < k + 1 → namedB d.t (d.past.getD j 0) = true := fun hx j hjk => by
        by_cases e : j = k
        · subst e; exact hx
        · exact hj j (by omega)
      have hfk := Lib.hid (hfa.out k)
      generalize d.past.getD k 0 = y at *
      have K2 := Lib.hid (hN.out _ hfk.out)
      generalize namedB d.t y = nb at *
      generalize nameOf d.t y = xs at *
      replace HJ := Lib.hid HJ
      replace hD := Lib.hid hD
      clear hc hj hn1 hn2 hn3 hyes hD'
      go_upto_region 4 with (fail)
      go_region_held3 (fun w' => (w'.cell? ⟨w.heap.size, 0, none⟩ = some (.slice A1 d.t.us.length c1) ∧ w'.cell? ⟨w.heap.size, 1, none⟩ = some (.slice A2 d.t.bs.length c2) ∧ w'.cell? ⟨w.heap.size, 2, none⟩ = some (.slice A3 d.t.ns.length c3) ∧ w'.cell? ⟨w.heap.size, 4, none⟩ = some (.slice (some ⟨b, o, none⟩) d.past.length c5)) ∧ w'.cell? ⟨b, o + k, none⟩ = some (.int .i64 y)) (first | go_keep | exact hS2)
        (first
          | (go_at_call 50; refine (K2.out _ (by first | exact hD.out.drew | exact hD.out)).mono ?_; rintro e w2 ⟨v2, rfl, -, b2'⟩; have b2 : Below wr.heap.size wr w2 := ⟨b2'.os, b2'.tape, b2'.output, b2'.size, b2'.block⟩; obtain ⟨y0, y1, y2, y3, y4⟩ := hXc.out _ (hD.out.trans (b2.mono hD.out.size)); have hS2 := And.intro (And.intro y0 (And.intro y1 (And.intro y2 y4))) ((b2.cell (p := ⟨b, o + k, none⟩) (Nat.lt_of_lt_of_le hbo hD.out.size)).trans ck); have hD2 := Lib.hid (hD.out.trans (b2.mono hD.out.size)); clear b2 b2' y0 y1 y2 y3 y4))
      all_goals
       clear x0 x1 x2 x3 x4 K2 ck hS2 hD
       have hD := Lib.hid hD2.out
       clear hD2
       cases nb
       · have hg := Lib.hid (hno.out (by simp))
         go_wp2
         go_ret
         exact ⟨ret_bool hg.out.symm, hB.out.trans (hD.out.mono hB.out.size)⟩
       · go_wp2
         go_roundw
         case rel => exact ⟨k + 1, by omega, by go_num, HJ.out (by simp), hD.out⟩
         case measure => simp [intOf]; omega
    · obtain rfl : k = d.past.length := by omega
      have K1 := Lib.hid (hN.out _ hnow.out _ hD)
      replace hyes := Lib.hid (fun h1 h2 => hyes.out h1 h2 hj)
      replace hD := Lib.hid hD
      clear hj hn3
      generalize namedB d.t d.now = nb at *
      generalize nameOf d.t d.now = xs at *
      go_wp2_with (fail)
      refine K1.out.mono ?_
      rintro e w2 ⟨v2, rfl, -, b2⟩
      replace hD := Lib.hid (hD.out.trans (b2.mono hD.out.size))
      clear b2 x0 x1 x2 x3 x4 K1
      obtain ⟨x0, x1, x2, x3, x4⟩ := hXc.out _ hD.out
      cases nb
      · have hg := Lib.hid (hn1.out (by simp))
        clear hn1 hn2 hyes
        go_wp2
        go_ret
        exact ⟨ret_bool hg.out.symm, hB.out.trans (hD.out.mono hB.out.size)⟩
      · by_cases hl : d.past.length ≤ 8
        · have hg := Lib.hid (hyes.out (by simp) hl)
          have hg1 : (d.past.length : Int) ≤ 8 := by omega
          have hg2 : decide ((d.past.length : Int) ≤ 8) = true := decide_eq_true hg1
          clear hn1 hn2 hyes
          go_wp2
          go_ret
          exact ⟨ret_bool hg.out.symm, hB.out.trans (hD.out.mono hB.out.size)⟩
        · have hg := Lib.hid (hn2.out hl)
          have hg1 : ¬ ((d.past.length : Int) ≤ 8) := by omega
          have hg2 : decide ((d.past.length : Int) ≤ 8) = false := decide_eq_false hg1
          clear hn1 hn2 hyes
          go_wp2
          go_ret
          exact ⟨ret_bool hg.out.symm, hB.out.trans (hD.out.mono hB.out.size)⟩
end Go.Proofs.YtmhgpbfogdoaeaaGreatDoor

/- Jb -/
namespace Go.Proofs.YtmhgpbfogdoaeaaGreatDoor
open Go.RowKit

/-- What is known of the operations that have come up. -/
structure LTC (w0 : World) (t : Tg) (A1 : Option Addr) (c1 : Nat) (A2 : Option Addr) (c2 : Nat) (A3 : Option Addr) (c3 : Nat) (l : Array Bool) (w : World) (s3 s4 s5 s6 s7 s8 s9 s10 s11 s12 s13 s14 s15 : Value) : Prop where
  g0 : l.getD 0 false = true → ∃ g, s3 = .slice (some ⟨g, 0, none⟩) 0 0 ∧ Blk w g 9 #[] ∧ (w0.heap.size + 2) ≤ g
  f1 : l.getD 1 false = true → s4 = .pointer (some ⟨w0.heap.size, 0, none⟩)
  f2 : l.getD 2 false = true → s5 = .slice A1 t.us.length c1
  o3 : l.getD 3 false = true → OwnStrs w (w0.heap.size + 2) s6 t.us
  g4 : l.getD 4 false = true → ∃ g, s7 = .slice (some ⟨g, 0, none⟩) 0 0 ∧ Blk w g 3 #[] ∧ (w0.heap.size + 2) ≤ g
  f5 : l.getD 5 false = true → s8 = .pointer (some ⟨w0.heap.size, 1, none⟩)
  f6 : l.getD 6 false = true → s9 = .slice A2 t.bs.length c2
  o7 : l.getD 7 false = true → OwnI w (w0.heap.size + 2) s10 t.bs
  g8 : l.getD 8 false = true → ∃ g, s11 = .slice (some ⟨g, 0, none⟩) 0 0 ∧ Blk w g 9 #[] ∧ (w0.heap.size + 2) ≤ g
  f9 : l.getD 9 false = true → s12 = .pointer (some ⟨w0.heap.size, 2, none⟩)
  f10 : l.getD 10 false = true → s13 = .slice A3 t.ns.length c3
  o11 : l.getD 11 false = true → OwnStrs w (w0.heap.size + 2) s14 t.ns
  b12 : l.getD 12 false = true → LTng w (w0.heap.size + 2) s15 t
  hr : l.getD 13 false = true → ∃ u0 u1 u2, Blk w (w0.heap.size + 1) 31 #[u0, u1, u2] ∧ LTng w (w0.heap.size + 2) (.agg #[u0, u1, u2]) t
  hz : l.getD 13 false = false → Blk w (w0.heap.size + 1) 31 #[.slice none 0 0, .slice none 0 0, .slice none 0 0]
  hx : Blk w (w0.heap.size) 31 #[.slice A1 t.us.length c1, .slice A2 t.bs.length c2, .slice A3 t.ns.length c3]
  low : Below w0.heap.size w0 w
  sz : (w0.heap.size + 2) ≤ w.heap.size
section
variable {w0 : World} {t : Tg} {A1 : Option Addr} {c1 : Nat} {A2 : Option Addr} {c2 : Nat} {A3 : Option Addr} {c3 : Nat} {l : Array Bool} {w w' : World} {s3 s4 s5 s6 s7 s8 s9 s10 s11 s12 s13 s14 s15 v : Value}
theorem LTC.up0 (h : LTC w0 t A1 c1 A2 c2 A3 c3 l w s3 s4 s5 s6 s7 s8 s9 s10 s11 s12 s13 s14 s15)  : LTC w0 t A1 c1 A2 c2 A3 c3 (l.setIfInBounds 0 true) (w.alloc (.cells #[] 9)) (.slice (some ⟨w.heap.size, 0, none⟩) 0 0) s4 s5 s6 s7 s8 s9 s10 s11 s12 s13 s14 s15 := by
  have hb := (Below.refl w.heap.size w).alloc (Nat.le_refl _) (.cells #[] 9)
  exact ⟨(fun _ => ⟨w.heap.size, rfl, Blk.new _ _ _, h.sz⟩), (fun h' => h.f1 (listed_set h' (by decide))), (fun h' => h.f2 (listed_set h' (by decide))), (fun h' => (h.o3 (listed_set h' (by decide))).below hb (Nat.le_refl _)), (fun h' => (let ⟨g, e, b, hg⟩ := h.g4 (listed_set h' (by decide)); ⟨g, e, b.below hb b.lt, hg⟩)), (fun h' => h.f5 (listed_set h' (by decide))), (fun h' => h.f6 (listed_set h' (by decide))), (fun h' => (h.o7 (listed_set h' (by decide))).below hb (Nat.le_refl _)), (fun h' => (let ⟨g, e, b, hg⟩ := h.g8 (listed_set h' (by decide)); ⟨g, e, b.below hb b.lt, hg⟩)), (fun h' => h.f9 (listed_set h' (by decide))), (fun h' => h.f10 (listed_set h' (by decide))), (fun h' => (h.o11 (listed_set h' (by decide))).below hb (Nat.le_refl _)), (fun h' => (h.b12 (listed_set h' (by decide))).below hb (Nat.le_refl _)), (fun h' => (let ⟨u0, u1, u2, b, hd⟩ := h.hr (listed_set h' (by decide)); ⟨u0, u1, u2, b.below hb b.lt, hd.below hb (Nat.le_refl _)⟩)), (fun h' => let b := h.hz (by rwa [listed_same (by decide)] at h'); b.below hb b.lt), h.hx.below hb h.hx.lt, h.low.trans (hb.mono h.low.size), Nat.le_trans h.sz hb.size⟩
theorem LTC.up1 (h : LTC w0 t A1 c1 A2 c2 A3 c3 l w s3 s4 s5 s6 s7 s8 s9 s10 s11 s12 s13 s14 s15) (hv : v = .pointer (some ⟨w0.heap.size, 0, none⟩)) : LTC w0 t A1 c1 A2 c2 A3 c3 (l.setIfInBounds 1 true) w s3 v s5 s6 s7 s8 s9 s10 s11 s12 s13 s14 s15 :=
  ⟨(fun h' => h.g0 (listed_set h' (by decide))), (fun _ => hv), (fun h' => h.f2 (listed_set h' (by decide))), (fun h' => h.o3 (listed_set h' (by decide))), (fun h' => h.g4 (listed_set h' (by decide))), (fun h' => h.f5 (listed_set h' (by decide))), (fun h' => h.f6 (listed_set h' (by decide))), (fun h' => h.o7 (listed_set h' (by decide))), (fun h' => h.g8 (listed_set h' (by decide))), (fun h' => h.f9 (listed_set h' (by decide))), (fun h' => h.f10 (listed_set h' (by decide))), (fun h' => h.o11 (listed_set h' (by decide))), (fun h' => h.b12 (listed_set h' (by decide))), (fun h' => h.hr (listed_set h' (by decide))), (fun h' => h.hz (by rwa [listed_same (by decide)] at h')), h.hx, h.low, h.sz⟩
theorem LTC.up2 (h : LTC w0 t A1 c1 A2 c2 A3 c3 l w s3 s4 s5 s6 s7 s8 s9 s10 s11 s12 s13 s14 s15) (hv : v = .slice A1 t.us.length c1) : LTC w0 t A1 c1 A2 c2 A3 c3 (l.setIfInBounds 2 true) w s3 s4 v s6 s7 s8 s9 s10 s11 s12 s13 s14 s15 :=
  ⟨(fun h' => h.g0 (listed_set h' (by decide))), (fun h' => h.f1 (listed_set h' (by decide))), (fun _ => hv), (fun h' => h.o3 (listed_set h' (by decide))), (fun h' => h.g4 (listed_set h' (by decide))), (fun h' => h.f5 (listed_set h' (by decide))), (fun h' => h.f6 (listed_set h' (by decide))), (fun h' => h.o7 (listed_set h' (by decide))), (fun h' => h.g8 (listed_set h' (by decide))), (fun h' => h.f9 (listed_set h' (by decide))), (fun h' => h.f10 (listed_set h' (by decide))), (fun h' => h.o11 (listed_set h' (by decide))), (fun h' => h.b12 (listed_set h' (by decide))), (fun h' => h.hr (listed_set h' (by decide))), (fun h' => h.hz (by rwa [listed_same (by decide)] at h')), h.hx, h.low, h.sz⟩
theorem LTC.up3 (h : LTC w0 t A1 c1 A2 c2 A3 c3 l w s3 s4 s5 s6 s7 s8 s9 s10 s11 s12 s13 s14 s15) (hv : OwnStrs w' (w0.heap.size + 2) v t.us) (hb : Below w.heap.size w w') : LTC w0 t A1 c1 A2 c2 A3 c3 (l.setIfInBounds 3 true) w' s3 s4 s5 v s7 s8 s9 s10 s11 s12 s13 s14 s15 :=
  ⟨(fun h' => (let ⟨g, e, b, hg⟩ := h.g0 (listed_set h' (by decide)); ⟨g, e, b.below hb b.lt, hg⟩)), (fun h' => h.f1 (listed_set h' (by decide))), (fun h' => h.f2 (listed_set h' (by decide))), (fun _ => hv), (fun h' => (let ⟨g, e, b, hg⟩ := h.g4 (listed_set h' (by decide)); ⟨g, e, b.below hb b.lt, hg⟩)), (fun h' => h.f5 (listed_set h' (by decide))), (fun h' => h.f6 (listed_set h' (by decide))), (fun h' => (h.o7 (listed_set h' (by decide))).below hb (Nat.le_refl _)), (fun h' => (let ⟨g, e, b, hg⟩ := h.g8 (listed_set h' (by decide)); ⟨g, e, b.below hb b.lt, hg⟩)), (fun h' => h.f9 (listed_set h' (by decide))), (fun h' => h.f10 (listed_set h' (by decide))), (fun h' => (h.o11 (listed_set h' (by decide))).below hb (Nat.le_refl _)), (fun h' => (h.b12 (listed_set h' (by decide))).below hb (Nat.le_refl _)), (fun h' => (let ⟨u0, u1, u2, b, hd⟩ := h.hr (listed_set h' (by decide)); ⟨u0, u1, u2, b.below hb b.lt, hd.below hb (Nat.le_refl _)⟩)), (fun h' => let b := h.hz (by rwa [listed_same (by decide)] at h'); b.below hb b.lt), h.hx.below hb h.hx.lt, h.low.trans (hb.mono h.low.size), Nat.le_trans h.sz hb.size⟩
theorem LTC.up4 (h : LTC w0 t A1 c1 A2 c2 A3 c3 l w s3 s4 s5 s6 s7 s8 s9 s10 s11 s12 s13 s14 s15)  : LTC w0 t A1 c1 A2 c2 A3 c3 (l.setIfInBounds 4 true) (w.alloc (.cells #[] 3)) s3 s4 s5 s6 (.slice (some ⟨w.heap.size, 0, none⟩) 0 0) s8 s9 s10 s11 s12 s13 s14 s15 := by
  have hb := (Below.refl w.heap.size w).alloc (Nat.le_refl _) (.cells #[] 3)
  exact ⟨(fun h' => (let ⟨g, e, b, hg⟩ := h.g0 (listed_set h' (by decide)); ⟨g, e, b.below hb b.lt, hg⟩)), (fun h' => h.f1 (listed_set h' (by decide))), (fun h' => h.f2 (listed_set h' (by decide))), (fun h' => (h.o3 (listed_set h' (by decide))).below hb (Nat.le_refl _)), (fun _ => ⟨w.heap.size, rfl, Blk.new _ _ _, h.sz⟩), (fun h' => h.f5 (listed_set h' (by decide))), (fun h' => h.f6 (listed_set h' (by decide))), (fun h' => (h.o7 (listed_set h' (by decide))).below hb (Nat.le_refl _)), (fun h' => (let ⟨g, e, b, hg⟩ := h.g8 (listed_set h' (by decide)); ⟨g, e, b.below hb b.lt, hg⟩)), (fun h' => h.f9 (listed_set h' (by decide))), (fun h' => h.f10 (listed_set h' (by decide))), (fun h' => (h.o11 (listed_set h' (by decide))).below hb (Nat.le_refl _)), (fun h' => (h.b12 (listed_set h' (by decide))).below hb (Nat.le_refl _)), (fun h' => (let ⟨u0, u1, u2, b, hd⟩ := h.hr (listed_set h' (by decide)); ⟨u0, u1, u2, b.below hb b.lt, hd.below hb (Nat.le_refl _)⟩)), (fun h' => let b := h.hz (by rwa [listed_same (by decide)] at h'); b.below hb b.lt), h.hx.below hb h.hx.lt, h.low.trans (hb.mono h.low.size), Nat.le_trans h.sz hb.size⟩
theorem LTC.up5 (h : LTC w0 t A1 c1 A2 c2 A3 c3 l w s3 s4 s5 s6 s7 s8 s9 s10 s11 s12 s13 s14 s15) (hv : v = .pointer (some ⟨w0.heap.size, 1, none⟩)) : LTC w0 t A1 c1 A2 c2 A3 c3 (l.setIfInBounds 5 true) w s3 s4 s5 s6 s7 v s9 s10 s11 s12 s13 s14 s15 :=
  ⟨(fun h' => h.g0 (listed_set h' (by decide))), (fun h' => h.f1 (listed_set h' (by decide))), (fun h' => h.f2 (listed_set h' (by decide))), (fun h' => h.o3 (listed_set h' (by decide))), (fun h' => h.g4 (listed_set h' (by decide))), (fun _ => hv), (fun h' => h.f6 (listed_set h' (by decide))), (fun h' => h.o7 (listed_set h' (by decide))), (fun h' => h.g8 (listed_set h' (by decide))), (fun h' => h.f9 (listed_set h' (by decide))), (fun h' => h.f10 (listed_set h' (by decide))), (fun h' => h.o11 (listed_set h' (by decide))), (fun h' => h.b12 (listed_set h' (by decide))), (fun h' => h.hr (listed_set h' (by decide))), (fun h' => h.hz (by rwa [listed_same (by decide)] at h')), h.hx, h.low, h.sz⟩
theorem LTC.up6 (h : LTC w0 t A1 c1 A2 c2 A3 c3 l w s3 s4 s5 s6 s7 s8 s9 s10 s11 s12 s13 s14 s15) (hv : v = .slice A2 t.bs.length c2) : LTC w0 t A1 c1 A2 c2 A3 c3 (l.setIfInBounds 6 true) w s3 s4 s5 s6 s7 s8 v s10 s11 s12 s13 s14 s15 :=
  ⟨(fun h' => h.g0 (listed_set h' (by decide))), (fun h' => h.f1 (listed_set h' (by decide))), (fun h' => h.f2 (listed_set h' (by decide))), (fun h' => h.o3 (listed_set h' (by decide))), (fun h' => h.g4 (listed_set h' (by decide))), (fun h' => h.f5 (listed_set h' (by decide))), (fun _ => hv), (fun h' => h.o7 (listed_set h' (by decide))), (fun h' => h.g8 (listed_set h' (by decide))), (fun h' => h.f9 (listed_set h' (by decide))), (fun h' => h.f10 (listed_set h' (by decide))), (fun h' => h.o11 (listed_set h' (by decide))), (fun h' => h.b12 (listed_set h' (by decide))), (fun h' => h.hr (listed_set h' (by decide))), (fun h' => h.hz (by rwa [listed_same (by decide)] at h')), h.hx, h.low, h.sz⟩
theorem LTC.up7 (h : LTC w0 t A1 c1 A2 c2 A3 c3 l w s3 s4 s5 s6 s7 s8 s9 s10 s11 s12 s13 s14 s15) (hv : OwnI w' (w0.heap.size + 2) v t.bs) (hb : Below w.heap.size w w') : LTC w0 t A1 c1 A2 c2 A3 c3 (l.setIfInBounds 7 true) w' s3 s4 s5 s6 s7 s8 s9 v s11 s12 s13 s14 s15 :=
  ⟨(fun h' => (let ⟨g, e, b, hg⟩ := h.g0 (listed_set h' (by decide)); ⟨g, e, b.below hb b.lt, hg⟩)), (fun h' => h.f1 (listed_set h' (by decide))), (fun h' => h.f2 (listed_set h' (by decide))), (fun h' => (h.o3 (listed_set h' (by decide))).below hb (Nat.le_refl _)), (fun h' => (let ⟨g, e, b, hg⟩ := h.g4 (listed_set h' (by decide)); ⟨g, e, b.below hb b.lt, hg⟩)), (fun h' => h.f5 (listed_set h' (by decide))), (fun h' => h.f6 (listed_set h' (by decide))), (fun _ => hv), (fun h' => (let ⟨g, e, b, hg⟩ := h.g8 (listed_set h' (by decide)); ⟨g, e, b.below hb b.lt, hg⟩)), (fun h' => h.f9 (listed_set h' (by decide))), (fun h' => h.f10 (listed_set h' (by decide))), (fun h' => (h.o11 (listed_set h' (by decide))).below hb (Nat.le_refl _)), (fun h' => (h.b12 (listed_set h' (by decide))).below hb (Nat.le_refl _)), (fun h' => (let ⟨u0, u1, u2, b, hd⟩ := h.hr (listed_set h' (by decide)); ⟨u0, u1, u2, b.below hb b.lt, hd.below hb (Nat.le_refl _)⟩)), (fun h' => let b := h.hz (by rwa [listed_same (by decide)] at h'); b.below hb b.lt), h.hx.below hb h.hx.lt, h.low.trans (hb.mono h.low.size), Nat.le_trans h.sz hb.size⟩
theorem LTC.up8 (h : LTC w0 t A1 c1 A2 c2 A3 c3 l w s3 s4 s5 s6 s7 s8 s9 s10 s11 s12 s13 s14 s15)  : LTC w0 t A1 c1 A2 c2 A3 c3 (l.setIfInBounds 8 true) (w.alloc (.cells #[] 9)) s3 s4 s5 s6 s7 s8 s9 s10 (.slice (some ⟨w.heap.size, 0, none⟩) 0 0) s12 s13 s14 s15 := by
  have hb := (Below.refl w.heap.size w).alloc (Nat.le_refl _) (.cells #[] 9)
  exact ⟨(fun h' => (let ⟨g, e, b, hg⟩ := h.g0 (listed_set h' (by decide)); ⟨g, e, b.below hb b.lt, hg⟩)), (fun h' => h.f1 (listed_set h' (by decide))), (fun h' => h.f2 (listed_set h' (by decide))), (fun h' => (h.o3 (listed_set h' (by decide))).below hb (Nat.le_refl _)), (fun h' => (let ⟨g, e, b, hg⟩ := h.g4 (listed_set h' (by decide)); ⟨g, e, b.below hb b.lt, hg⟩)), (fun h' => h.f5 (listed_set h' (by decide))), (fun h' => h.f6 (listed_set h' (by decide))), (fun h' => (h.o7 (listed_set h' (by decide))).below hb (Nat.le_refl _)), (fun _ => ⟨w.heap.size, rfl, Blk.new _ _ _, h.sz⟩), (fun h' => h.f9 (listed_set h' (by decide))), (fun h' => h.f10 (listed_set h' (by decide))), (fun h' => (h.o11 (listed_set h' (by decide))).below hb (Nat.le_refl _)), (fun h' => (h.b12 (listed_set h' (by decide))).below hb (Nat.le_refl _)), (fun h' => (let ⟨u0, u1, u2, b, hd⟩ := h.hr (listed_set h' (by decide)); ⟨u0, u1, u2, b.below hb b.lt, hd.below hb (Nat.le_refl _)⟩)), (fun h' => let b := h.hz (by rwa [listed_same (by decide)] at h'); b.below hb b.lt), h.hx.below hb h.hx.lt, h.low.trans (hb.mono h.low.size), Nat.le_trans h.sz hb.size⟩
theorem LTC.up9 (h : LTC w0 t A1 c1 A2 c2 A3 c3 l w s3 s4 s5 s6 s7 s8 s9 s10 s11 s12 s13 s14 s15) (hv : v = .pointer (some ⟨w0.heap.size, 2, none⟩)) : LTC w0 t A1 c1 A2 c2 A3 c3 (l.setIfInBounds 9 true) w s3 s4 s5 s6 s7 s8 s9 s10 s11 v s13 s14 s15 :=
  ⟨(fun h' => h.g0 (listed_set h' (by decide))), (fun h' => h.f1 (listed_set h' (by decide))), (fun h' => h.f2 (listed_set h' (by decide))), (fun h' => h.o3 (listed_set h' (by decide))), (fun h' => h.g4 (listed_set h' (by decide))), (fun h' => h.f5 (listed_set h' (by decide))), (fun h' => h.f6 (listed_set h' (by decide))), (fun h' => h.o7 (listed_set h' (by decide))), (fun h' => h.g8 (listed_set h' (by decide))), (fun _ => hv), (fun h' => h.f10 (listed_set h' (by decide))), (fun h' => h.o11 (listed_set h' (by decide))), (fun h' => h.b12 (listed_set h' (by decide))), (fun h' => h.hr (listed_set h' (by decide))), (fun h' => h.hz (by rwa [listed_same (by decide)] at h')), h.hx, h.low, h.sz⟩
theorem LTC.up10 (h : LTC w0 t A1 c1 A2 c2 A3 c3 l w s3 s4 s5 s6 s7 s8 s9 s10 s11 s12 s13 s14 s15) (hv : v = .slice A3 t.ns.length c3) : LTC w0 t A1 c1 A2 c2 A3 c3 (l.setIfInBounds 10 true) w s3 s4 s5 s6 s7 s8 s9 s10 s11 s12 v s14 s15 :=
  ⟨(fun h' => h.g0 (listed_set h' (by decide))), (fun h' => h.f1 (listed_set h' (by decide))), (fun h' => h.f2 (listed_set h' (by decide))), (fun h' => h.o3 (listed_set h' (by decide))), (fun h' => h.g4 (listed_set h' (by decide))), (fun h' => h.f5 (listed_set h' (by decide))), (fun h' => h.f6 (listed_set h' (by decide))), (fun h' => h.o7 (listed_set h' (by decide))), (fun h' => h.g8 (listed_set h' (by decide))), (fun h' => h.f9 (listed_set h' (by decide))), (fun _ => hv), (fun h' => h.o11 (listed_set h' (by decide))), (fun h' => h.b12 (listed_set h' (by decide))), (fun h' => h.hr (listed_set h' (by decide))), (fun h' => h.hz (by rwa [listed_same (by decide)] at h')), h.hx, h.low, h.sz⟩
theorem LTC.up11 (h : LTC w0 t A1 c1 A2 c2 A3 c3 l w s3 s4 s5 s6 s7 s8 s9 s10 s11 s12 s13 s14 s15) (hv : OwnStrs w' (w0.heap.size + 2) v t.ns) (hb : Below w.heap.size w w') : LTC w0 t A1 c1 A2 c2 A3 c3 (l.setIfInBounds 11 true) w' s3 s4 s5 s6 s7 s8 s9 s10 s11 s12 s13 v s15 :=
  ⟨(fun h' => (let ⟨g, e, b, hg⟩ := h.g0 (listed_set h' (by decide)); ⟨g, e, b.below hb b.lt, hg⟩)), (fun h' => h.f1 (listed_set h' (by decide))), (fun h' => h.f2 (listed_set h' (by decide))), (fun h' => (h.o3 (listed_set h' (by decide))).below hb (Nat.le_refl _)), (fun h' => (let ⟨g, e, b, hg⟩ := h.g4 (listed_set h' (by decide)); ⟨g, e, b.below hb b.lt, hg⟩)), (fun h' => h.f5 (listed_set h' (by decide))), (fun h' => h.f6 (listed_set h' (by decide))), (fun h' => (h.o7 (listed_set h' (by decide))).below hb (Nat.le_refl _)), (fun h' => (let ⟨g, e, b, hg⟩ := h.g8 (listed_set h' (by decide)); ⟨g, e, b.below hb b.lt, hg⟩)), (fun h' => h.f9 (listed_set h' (by decide))), (fun h' => h.f10 (listed_set h' (by decide))), (fun _ => hv), (fun h' => (h.b12 (listed_set h' (by decide))).below hb (Nat.le_refl _)), (fun h' => (let ⟨u0, u1, u2, b, hd⟩ := h.hr (listed_set h' (by decide)); ⟨u0, u1, u2, b.below hb b.lt, hd.below hb (Nat.le_refl _)⟩)), (fun h' => let b := h.hz (by rwa [listed_same (by decide)] at h'); b.below hb b.lt), h.hx.below hb h.hx.lt, h.low.trans (hb.mono h.low.size), Nat.le_trans h.sz hb.size⟩
theorem LTC.up12 (h : LTC w0 t A1 c1 A2 c2 A3 c3 l w s3 s4 s5 s6 s7 s8 s9 s10 s11 s12 s13 s14 s15) (hv : LTng w (w0.heap.size + 2) v t) : LTC w0 t A1 c1 A2 c2 A3 c3 (l.setIfInBounds 12 true) w s3 s4 s5 s6 s7 s8 s9 s10 s11 s12 s13 s14 v :=
  ⟨(fun h' => h.g0 (listed_set h' (by decide))), (fun h' => h.f1 (listed_set h' (by decide))), (fun h' => h.f2 (listed_set h' (by decide))), (fun h' => h.o3 (listed_set h' (by decide))), (fun h' => h.g4 (listed_set h' (by decide))), (fun h' => h.f5 (listed_set h' (by decide))), (fun h' => h.f6 (listed_set h' (by decide))), (fun h' => h.o7 (listed_set h' (by decide))), (fun h' => h.g8 (listed_set h' (by decide))), (fun h' => h.f9 (listed_set h' (by decide))), (fun h' => h.f10 (listed_set h' (by decide))), (fun h' => h.o11 (listed_set h' (by decide))), (fun _ => hv), (fun h' => h.hr (listed_set h' (by decide))), (fun h' => h.hz (by rwa [listed_same (by decide)] at h')), h.hx, h.low, h.sz⟩
theorem LTC.up13 (h : LTC w0 t A1 c1 A2 c2 A3 c3 l w s3 s4 s5 s6 s7 s8 s9 s10 s11 s12 s13 s14 s15) {u0 u1 u2 : Value} (hsz : l.size = 14) (hun : l.getD 13 false = false) (hv : LTng w (w0.heap.size + 2) (.agg #[u0, u1, u2]) t) (hxq : w0.heap.size ≠ (w0.heap.size + 1)) : LTC w0 t A1 c1 A2 c2 A3 c3 (l.setIfInBounds 13 true) (((w.setCell ⟨(w0.heap.size + 1), 0, none⟩ u0).setCell ⟨(w0.heap.size + 1), 1, none⟩ u1).setCell ⟨(w0.heap.size + 1), 2, none⟩ u2) s3 s4 s5 s6 s7 s8 s9 s10 s11 s12 s13 s14 s15 := by
  have HB : Blk (((w.setCell ⟨(w0.heap.size + 1), 0, none⟩ u0).setCell ⟨(w0.heap.size + 1), 1, none⟩ u1).setCell ⟨(w0.heap.size + 1), 2, none⟩ u2) (w0.heap.size + 1) 31 #[u0, u1, u2] := by
    have := (Blk.set_ (Blk.set_ (Blk.set_ (h.hz hun) 0 u0) 1 u1) 2 u2)
    simpa using this
  have HS : ∀ {B : Nat} {v : Value} {xs : List ByteArray}, OwnStrs w B v xs → OwnStrs (((w.setCell ⟨(w0.heap.size + 1), 0, none⟩ u0).setCell ⟨(w0.heap.size + 1), 1, none⟩ u1).setCell ⟨(w0.heap.size + 1), 2, none⟩ u2) B v xs := fun {B v xs} ho => by
    have m := own_blk_ne ho (h.hz hun) (by decide)
    exact (own_set (own_set (own_set ho m) m) m)
  have HI : ∀ {B : Nat} {v : Value} {xs : List Int}, OwnI w B v xs → OwnI (((w.setCell ⟨(w0.heap.size + 1), 0, none⟩ u0).setCell ⟨(w0.heap.size + 1), 1, none⟩ u1).setCell ⟨(w0.heap.size + 1), 2, none⟩ u2) B v xs := fun {B v xs} ho => by
    have m := own_blk_ne ho (h.hz hun) (by decide)
    exact (own_set (own_set (own_set ho m) m) m)
  have HRS := @HS
  have HRI := @HI
  have HRT : ∀ {B : Nat} {v : Value} {t : Tg}, LTng w B v t → LTng (((w.setCell ⟨(w0.heap.size + 1), 0, none⟩ u0).setCell ⟨(w0.heap.size + 1), 1, none⟩ u1).setCell ⟨(w0.heap.size + 1), 2, none⟩ u2) B v t := fun {B v t} ho => by
    obtain ⟨v1, v2, v3, e, o1, o2, o3⟩ := ho.ex
    exact ⟨v1, v2, v3, e, HS o1, HI o2, HS o3⟩
  have HRB : ∀ {v : Value}, LTng w (w0.heap.size + 2) v t → LTng (((w.setCell ⟨(w0.heap.size + 1), 0, none⟩ u0).setCell ⟨(w0.heap.size + 1), 1, none⟩ u1).setCell ⟨(w0.heap.size + 1), 2, none⟩ u2) (w0.heap.size + 2) v t := fun {v} ho => by
    exact HRT ho
  have HL : ∀ {g : Nat} {t : TypeId}, Blk w g t #[] → t ≠ 31 → Blk (((w.setCell ⟨(w0.heap.size + 1), 0, none⟩ u0).setCell ⟨(w0.heap.size + 1), 1, none⟩ u1).setCell ⟨(w0.heap.size + 1), 2, none⟩ u2) g t #[] := fun {g t} b hne => by
    have m : g ≠ (w0.heap.size + 1) := fun e => by
      subst e
      have e1 := b
      have e2 := (h.hz hun)
      unfold Blk at e1 e2
      rw [e1] at e2
      injection e2 with e2
      injection e2 with _ e3
      exact hne e3
    exact (Blk.far (Blk.far (Blk.far b (p := ⟨(w0.heap.size + 1), 0, none⟩) m u0) (p := ⟨(w0.heap.size + 1), 1, none⟩) m u1) (p := ⟨(w0.heap.size + 1), 2, none⟩) m u2)
  have HX : Blk (((w.setCell ⟨(w0.heap.size + 1), 0, none⟩ u0).setCell ⟨(w0.heap.size + 1), 1, none⟩ u1).setCell ⟨(w0.heap.size + 1), 2, none⟩ u2) (w0.heap.size) 31 #[.slice A1 t.us.length c1, .slice A2 t.bs.length c2, .slice A3 t.ns.length c3] := (Blk.far (Blk.far (Blk.far h.hx (p := ⟨(w0.heap.size + 1), 0, none⟩) hxq u0) (p := ⟨(w0.heap.size + 1), 1, none⟩) hxq u1) (p := ⟨(w0.heap.size + 1), 2, none⟩) hxq u2)
  have HLow : Below w0.heap.size w0 (((w.setCell ⟨(w0.heap.size + 1), 0, none⟩ u0).setCell ⟨(w0.heap.size + 1), 1, none⟩ u1).setCell ⟨(w0.heap.size + 1), 2, none⟩ u2) := (Below.setCell (Below.setCell (Below.setCell h.low (p := ⟨(w0.heap.size + 1), 0, none⟩) (by simp) u0) (p := ⟨(w0.heap.size + 1), 1, none⟩) (by simp) u1) (p := ⟨(w0.heap.size + 1), 2, none⟩) (by simp) u2)
  have HV := HRB hv
  exact ⟨(fun h' => let ⟨g, e, b, hg⟩ := h.g0 (listed_set h' (by decide)); ⟨g, e, HL b (by decide), hg⟩), (fun h' => h.f1 (listed_set h' (by decide))), (fun h' => h.f2 (listed_set h' (by decide))), (fun h' => HRS (h.o3 (listed_set h' (by decide)))), (fun h' => let ⟨g, e, b, hg⟩ := h.g4 (listed_set h' (by decide)); ⟨g, e, HL b (by decide), hg⟩), (fun h' => h.f5 (listed_set h' (by decide))), (fun h' => h.f6 (listed_set h' (by decide))), (fun h' => HRI (h.o7 (listed_set h' (by decide)))), (fun h' => let ⟨g, e, b, hg⟩ := h.g8 (listed_set h' (by decide)); ⟨g, e, HL b (by decide), hg⟩), (fun h' => h.f9 (listed_set h' (by decide))), (fun h' => h.f10 (listed_set h' (by decide))), (fun h' => HRS (h.o11 (listed_set h' (by decide)))), (fun h' => HRB (h.b12 (listed_set h' (by decide)))), (fun _ => ⟨_, _, _, HB, HV⟩), (fun h' => by rw [listed_at (by omega)] at h'; cases h'), HX, HLow, by simpa using h.sz⟩
end

/-- A tongue is returned, in rows of the call's own. -/
def RetLT (w : World) (t : Tg) (e : Ending) (w' : World) : Prop := ∃ v, e = .returned v ∧ LTng w' w.heap.size v t ∧ Below w.heap.size w w'
set_option maxRecDepth 100000 in
set_option maxHeartbeats 8000000 in
theorem specTongue_any (v : Value) (t : Tg) (w0 : World) (h : Tng w0 v t) (hf : t.Fine) :
    Calls Tryz.prog 113 #[v] w0 (RetLT w0 t) := by
  obtain ⟨is0, his, hzs0, hzs1, hzs2⟩ := info_parts str_info
  obtain ⟨ii0, hii, hzi0, hzi1, hzi2⟩ := info_parts int_info0
  obtain ⟨A1, c1, A2, c2, A3, c3, rfl, h1, h2, h3⟩ := h.ex
  have hu := hf.us
  have hb := hf.bs
  have hn := hf.ns
  have HS1 := Lib.hid (fun W (hb : Below w0.heap.size w0 W) => (h1.below hb (Nat.le_refl _)).src)
  have HS2 := Lib.hid (fun W (hb : Below w0.heap.size w0 W) => (h2.below hb (Nat.le_refl _)).src)
  have HS3 := Lib.hid (fun W (hb : Below w0.heap.size w0 W) => (h3.below hb (Nat.le_refl _)).src)
  have hB := ((Below.refl w0.heap.size w0).alloc (Nat.le_refl _) (.cells #[.slice A1 t.us.length c1, .slice A2 t.bs.length c2, .slice A3 t.ns.length c3] 31)).alloc (by simp) (.cells #[.slice none 0 0, .slice none 0 0, .slice none 0 0] 31)
  have HX := (Blk.new w0 31 #[.slice A1 t.us.length c1, .slice A2 t.bs.length c2, .slice A3 t.ns.length c3]).alloc (.cells #[.slice none 0 0, .slice none 0 0, .slice none 0 0] 31)
  have HZ : Blk ((w0.alloc (.cells #[.slice A1 t.us.length c1, .slice A2 t.bs.length c2, .slice A3 t.ns.length c3] 31)).alloc (.cells #[.slice none 0 0, .slice none 0 0, .slice none 0 0] 31)) (w0.heap.size + 1) 31 #[.slice none 0 0, .slice none 0 0, .slice none 0 0] := blk_new_at _ (by simp)
  have hsW : ((w0.alloc (.cells #[.slice A1 t.us.length c1, .slice A2 t.bs.length c2, .slice A3 t.ns.length c3] 31)).alloc (.cells #[.slice none 0 0, .slice none 0 0, .slice none 0 0] 31)).heap.size = w0.heap.size + 2 := by simp
  replace hB := Lib.hid hB
  replace HX := Lib.hid HX
  replace HZ := Lib.hid HZ
  replace hsW := Lib.hid hsW
  clear h h1 h2 h3 hf
  go_enter Tryz.func113, Tryz.ntmps113
  go_upto_region 1 with (fail)
  generalize (w0.alloc (.cells #[.slice A1 t.us.length c1, .slice A2 t.bs.length c2, .slice A3 t.ns.length c3] 31)).alloc (.cells #[.slice none 0 0, .slice none 0 0, .slice none 0 0] 31) = W at *
  refine wp_region_any (by kernel_rfl) ?_
  refine wpAny_inv (Inv := fun l a w' => ∃ (s3 s4 s5 s6 s7 s8 s9 s10 s11 s12 s13 s14 s15 : Value), a = ⟨#[.agg #[.slice A1 t.us.length c1, .slice A2 t.bs.length c2, .slice A3 t.ns.length c3], .pointer (some ⟨w0.heap.size, 0, none⟩), .pointer (some ⟨w0.heap.size + 1, 0, none⟩), s3, s4, s5, s6, s7, s8, s9, s10, s11, s12, s13, s14, s15], []⟩ ∧ LTC w0 t A1 c1 A2 c2 A3 c3 l w' s3 s4 s5 s6 s7 s8 s9 s10 s11 s12 s13 s14 s15) (ord_spec (by kernel_rfl)) ?_ ?_ _ _ _ _ rfl (by decide) ?_
  · rintro l a w' ⟨s3, s4, s5, s6, s7, s8, s9, s10, s11, s12, s13, s14, s15, rfl, hF⟩ hsz hl
    have hl' : ∀ j, j < 14 → l.getD j false = true := hl
    obtain ⟨u0, u1, u2, HB, HV⟩ := hF.hr (hl' 13 (by decide))
    obtain ⟨r0, r1, r2, -, -, -⟩ := blk3 HB
    have HR : RetLT w0 t (.returned (.agg #[u0, u1, u2])) w' := ⟨_, rfl, HV.mono (by omega), hF.low⟩
    replace HR := Lib.hid HR
    clear hF hl hl' hsz HB HV
    go_wp2
    refine bodyPost_ret (v := .agg #[u0, u1, u2]) (by simp [results, Tryz.results113, go_sem, r0, r1, r2]) rfl ?_
    exact HR.out
  · rintro l a w' ⟨s3, s4, s5, s6, s7, s8, s9, s10, s11, s12, s13, s14, s15, rfl, hF⟩ hsz i o hlt ho hun hall
    have hlt' : i < 14 := hlt
    refine wpOp_step ho (fun K' hK => ?_)
    replace hK := Lib.hid hK
    obtain rfl | rfl | rfl | rfl | rfl | rfl | rfl | rfl | rfl | rfl | rfl | rfl | rfl | rfl : i = 0 ∨ i = 1 ∨ i = 2 ∨ i = 3 ∨ i = 4 ∨ i = 5 ∨ i = 6 ∨ i = 7 ∨ i = 8 ∨ i = 9 ∨ i = 10 ∨ i = 11 ∨ i = 12 ∨ i = 13 := by omega
    · simp only [List.getElem?_toArray, List.getElem?_cons_zero, Option.some.injEq] at ho
      subst ho
      replace hF := Lib.hid hF
      clear hall
      go_simp
      refine hK.out _ _ ?_
      exact ⟨_, _, _, _, _, _, _, _, _, _, _, _, _, rfl, hF.out.up0⟩
    · simp only [List.getElem?_toArray, List.getElem?_cons_succ, List.getElem?_cons_zero, Option.some.injEq] at ho
      subst ho
      replace hF := Lib.hid hF
      clear hall
      go_simp
      refine hK.out _ _ ?_
      exact ⟨_, _, _, _, _, _, _, _, _, _, _, _, _, rfl, hF.out.up1 rfl⟩
    · simp only [List.getElem?_toArray, List.getElem?_cons_succ, List.getElem?_cons_zero, Option.some.injEq] at ho
      subst ho
      have e1 := hF.f1 (hall ⟨1, Ground.data⟩ (by simp) rfl)
      subst e1
      obtain ⟨x0, x1, x2, -, -, -⟩ := blk3 hF.hx
      replace hF := Lib.hid hF
      clear hall
      go_simp
      refine hK.out _ _ ?_
      exact ⟨_, _, _, _, _, _, _, _, _, _, _, _, _, rfl, hF.out.up2 rfl⟩
    · simp only [List.getElem?_toArray, List.getElem?_cons_succ, List.getElem?_cons_zero, Option.some.injEq] at ho
      subst ho
      have e2 := hF.f2 (hall ⟨2, Ground.data⟩ (by simp) rfl)
      subst e2
      obtain ⟨g, eg, bg, hBg⟩ := hF.g0 (hall ⟨0, Ground.data⟩ (by simp) rfl)
      have h0l := (hall ⟨0, Ground.data⟩ (by simp) rfl)
      subst eg
      have hsB := hF.sz
      have hs1 := HS1.out w' hF.low
      replace hF := Lib.hid hF
      replace hs1 := Lib.hid hs1
      replace bg := Lib.hid bg
      clear hall
      refine step_app0 _ rfl (.tmp 3) (.tmp 5) _ rfl ((w0.heap.size + 2)) 9 is0 _ 16 Tryz.underlying28 his hzs0 hzs1 hzs2 rfl g rfl bg.out hBg A1 t.us.length c1 _ rfl hs1.out (by unfold maxLen; omega) (by omega) hsB ?_
      intro v8 w8 ho8 hb8 hat8
      have hv : OwnStrs w8 (w0.heap.size + 2) v8 t.us := ho8
      refine hK.out _ _ ?_
      exact ⟨_, _, _, _, _, _, _, _, _, _, _, _, _, rfl, hF.out.up3 hv hb8⟩
    · simp only [List.getElem?_toArray, List.getElem?_cons_succ, List.getElem?_cons_zero, Option.some.injEq] at ho
      subst ho
      replace hF := Lib.hid hF
      clear hall
      go_simp
      refine hK.out _ _ ?_
      exact ⟨_, _, _, _, _, _, _, _, _, _, _, _, _, rfl, hF.out.up4⟩
    · simp only [List.getElem?_toArray, List.getElem?_cons_succ, List.getElem?_cons_zero, Option.some.injEq] at ho
      subst ho
      replace hF := Lib.hid hF
      clear hall
      go_simp
      refine hK.out _ _ ?_
      exact ⟨_, _, _, _, _, _, _, _, _, _, _, _, _, rfl, hF.out.up5 rfl⟩
    · simp only [List.getElem?_toArray, List.getElem?_cons_succ, List.getElem?_cons_zero, Option.some.injEq] at ho
      subst ho
      have e5 := hF.f5 (hall ⟨5, Ground.data⟩ (by simp) rfl)
      subst e5
      obtain ⟨x0, x1, x2, -, -, -⟩ := blk3 hF.hx
      replace hF := Lib.hid hF
      clear hall
      go_simp
      refine hK.out _ _ ?_
      exact ⟨_, _, _, _, _, _, _, _, _, _, _, _, _, rfl, hF.out.up6 rfl⟩
    · simp only [List.getElem?_toArray, List.getElem?_cons_succ, List.getElem?_cons_zero, Option.some.injEq] at ho
      subst ho
      have e6 := hF.f6 (hall ⟨6, Ground.data⟩ (by simp) rfl)
      subst e6
      obtain ⟨g, eg, bg, hBg⟩ := hF.g4 (hall ⟨4, Ground.data⟩ (by simp) rfl)
      have h4l := (hall ⟨4, Ground.data⟩ (by simp) rfl)
      subst eg
      have hsB := hF.sz
      have hs1 := HS2.out w' hF.low
      replace hF := Lib.hid hF
      replace hs1 := Lib.hid hs1
      replace bg := Lib.hid bg
      clear hall
      refine step_app0 _ rfl (.tmp 7) (.tmp 9) _ rfl ((w0.heap.size + 2)) 3 ii0 _ 8 Tryz.underlying29 hii hzi0 hzi1 hzi2 rfl g rfl bg.out hBg A2 t.bs.length c2 _ rfl hs1.out (by unfold maxLen; omega) (by omega) hsB ?_
      intro v8 w8 ho8 hb8 hat8
      have hv : OwnI w8 (w0.heap.size + 2) v8 t.bs := ho8
      refine hK.out _ _ ?_
      exact ⟨_, _, _, _, _, _, _, _, _, _, _, _, _, rfl, hF.out.up7 hv hb8⟩
    · simp only [List.getElem?_toArray, List.getElem?_cons_succ, List.getElem?_cons_zero, Option.some.injEq] at ho
      subst ho
      replace hF := Lib.hid hF
      clear hall
      go_simp
      refine hK.out _ _ ?_
      exact ⟨_, _, _, _, _, _, _, _, _, _, _, _, _, rfl, hF.out.up8⟩
    · simp only [List.getElem?_toArray, List.getElem?_cons_succ, List.getElem?_cons_zero, Option.some.injEq] at ho
      subst ho
      replace hF := Lib.hid hF
      clear hall
      go_simp
      refine hK.out _ _ ?_
      exact ⟨_, _, _, _, _, _, _, _, _, _, _, _, _, rfl, hF.out.up9 rfl⟩
    · simp only [List.getElem?_toArray, List.getElem?_cons_succ, List.getElem?_cons_zero, Option.some.injEq] at ho
      subst ho
      have e9 := hF.f9 (hall ⟨9, Ground.data⟩ (by simp) rfl)
      subst e9
      obtain ⟨x0, x1, x2, -, -, -⟩ := blk3 hF.hx
      replace hF := Lib.hid hF
      clear hall
      go_simp
      refine hK.out _ _ ?_
      exact ⟨_, _, _, _, _, _, _, _, _, _, _, _, _, rfl, hF.out.up10 rfl⟩
    · simp only [List.getElem?_toArray, List.getElem?_cons_succ, List.getElem?_cons_zero, Option.some.injEq] at ho
      subst ho
      have e10 := hF.f10 (hall ⟨10, Ground.data⟩ (by simp) rfl)
      subst e10
      obtain ⟨g, eg, bg, hBg⟩ := hF.g8 (hall ⟨8, Ground.data⟩ (by simp) rfl)
      have h8l := (hall ⟨8, Ground.data⟩ (by simp) rfl)
      subst eg
      have hsB := hF.sz
      have hs1 := HS3.out w' hF.low
      replace hF := Lib.hid hF
      replace hs1 := Lib.hid hs1
      replace bg := Lib.hid bg
      clear hall
      refine step_app0 _ rfl (.tmp 11) (.tmp 13) _ rfl ((w0.heap.size + 2)) 9 is0 _ 16 Tryz.underlying28 his hzs0 hzs1 hzs2 rfl g rfl bg.out hBg A3 t.ns.length c3 _ rfl hs1.out (by unfold maxLen; omega) (by omega) hsB ?_
      intro v8 w8 ho8 hb8 hat8
      have hv : OwnStrs w8 (w0.heap.size + 2) v8 t.ns := ho8
      refine hK.out _ _ ?_
      exact ⟨_, _, _, _, _, _, _, _, _, _, _, _, _, rfl, hF.out.up11 hv hb8⟩
    · simp only [List.getElem?_toArray, List.getElem?_cons_succ, List.getElem?_cons_zero, Option.some.injEq] at ho
      subst ho
      have h1 := hF.o3 (hall ⟨3, Ground.data⟩ (by simp) rfl)
      obtain ⟨B1, d1, e1⟩ := h1.shape
      subst e1
      have h2 := hF.o7 (hall ⟨7, Ground.data⟩ (by simp) rfl)
      obtain ⟨B2, d2, e2⟩ := h2.shape
      subst e2
      have h3 := hF.o11 (hall ⟨11, Ground.data⟩ (by simp) rfl)
      obtain ⟨B3, d3, e3⟩ := h3.shape
      subst e3
      have hv : LTng w' (w0.heap.size + 2) (.agg #[.slice B1 t.us.length d1, .slice B2 t.bs.length d2, .slice B3 t.ns.length d3]) t := ⟨_, _, _, rfl, h1, h2, h3⟩
      replace hF := Lib.hid hF
      clear hall
      go_simp
      refine hK.out _ _ ?_
      exact ⟨_, _, _, _, _, _, _, _, _, _, _, _, _, rfl, hF.out.up12 hv⟩
    · simp only [List.getElem?_toArray, List.getElem?_cons_succ, List.getElem?_cons_zero, Option.some.injEq] at ho
      subst ho
      have hv := hF.b12 (hall ⟨12, Ground.data⟩ (by simp) rfl)
      obtain ⟨B1, d1, B2, d2, B3, d3, e1⟩ := hv.shape
      subst e1
      obtain ⟨r0, r1, r2, f0, f1, f2⟩ := blk3 (hF.hz hun)
      have hlw := hF.low.size
      replace hF := Lib.hid hF
      clear hall
      go_simp
      refine hK.out _ _ ?_
      exact ⟨_, _, _, _, _, _, _, _, _, _, _, _, _, rfl, hF.out.up13 hsz hun hv (by omega)⟩
  · exact ⟨_, _, _, _, _, _, _, _, _, _, _, _, _, rfl, (fun h => by simp at h), (fun h => by simp at h), (fun h => by simp at h), (fun h => by simp at h), (fun h => by simp at h), (fun h => by simp at h), (fun h => by simp at h), (fun h => by simp at h), (fun h => by simp at h), (fun h => by simp at h), (fun h => by simp at h), (fun h => by simp at h), (fun h => by simp at h), (fun h => by simp at h), (fun _ => HZ.out.drew), HX.out.drew, hB.out.drew, by have := hsW.out; simpa using Nat.le_of_eq this.symm⟩
/-- What is known of the operations that have come up. -/
structure LDC (w0 : World) (d : Dk) (A1 : Option Addr) (c1 : Nat) (A2 : Option Addr) (c2 : Nat) (A3 : Option Addr) (c3 : Nat) (A5 : Option Addr) (c5 : Nat) (l : Array Bool) (w : World) (s3 s4 s5 s6 s7 s8 s9 s10 s11 s12 : Value) : Prop where
  f0 : l.getD 0 false = true → s3 = .pointer (some ⟨w0.heap.size, 0, none⟩)
  f1 : l.getD 1 false = true → s4 = .agg #[.slice A1 d.t.us.length c1, .slice A2 d.t.bs.length c2, .slice A3 d.t.ns.length c3]
  o2 : l.getD 2 false = true → LTng w (w0.heap.size + 2) s5 d.t
  f3 : l.getD 3 false = true → s6 = .pointer (some ⟨w0.heap.size, 3, none⟩)
  f4 : l.getD 4 false = true → s7 = .int .i64 d.now
  g5 : l.getD 5 false = true → ∃ g, s8 = .slice (some ⟨g, 0, none⟩) 0 0 ∧ Blk w g 3 #[] ∧ (w0.heap.size + 2) ≤ g
  f6 : l.getD 6 false = true → s9 = .pointer (some ⟨w0.heap.size, 4, none⟩)
  f7 : l.getD 7 false = true → s10 = .slice A5 d.past.length c5
  o8 : l.getD 8 false = true → OwnI w (w0.heap.size + 2) s11 d.past
  b9 : l.getD 9 false = true → LDk w (w0.heap.size + 2) s12 d
  hr : l.getD 10 false = true → ∃ u0 u1 u2 u3 u4, Blk w (w0.heap.size + 1) 33 #[u0, u1, u2, u3, u4] ∧ LDk w (w0.heap.size + 2) (.agg #[u0, u1, u2, u3, u4]) d
  pL : l.getD 2 false = true → l.getD 5 false = true → ∀ v1 v2 v3, s5 = .agg #[v1, v2, v3] → ∀ k, v2.ownBlock = some k → s8.ownBlock ≠ some k
  pA : l.getD 2 false = true → l.getD 8 false = true → ∀ v1 v2 v3, s5 = .agg #[v1, v2, v3] → ∀ k, v2.ownBlock = some k → s11.ownBlock ≠ some k
  hz : l.getD 10 false = false → Blk w (w0.heap.size + 1) 33 #[.slice none 0 0, .slice none 0 0, .slice none 0 0, .int .i64 0, .slice none 0 0]
  hx : Blk w (w0.heap.size) 33 #[.slice A1 d.t.us.length c1, .slice A2 d.t.bs.length c2, .slice A3 d.t.ns.length c3, .int .i64 d.now, .slice A5 d.past.length c5]
  low : Below w0.heap.size w0 w
  sz : (w0.heap.size + 2) ≤ w.heap.size
section
variable {w0 : World} {d : Dk} {A1 : Option Addr} {c1 : Nat} {A2 : Option Addr} {c2 : Nat} {A3 : Option Addr} {c3 : Nat} {A5 : Option Addr} {c5 : Nat} {l : Array Bool} {w w' : World} {s3 s4 s5 s6 s7 s8 s9 s10 s11 s12 v : Value}
theorem LDC.up0 (h : LDC w0 d A1 c1 A2 c2 A3 c3 A5 c5 l w s3 s4 s5 s6 s7 s8 s9 s10 s11 s12) (hv : v = .pointer (some ⟨w0.heap.size, 0, none⟩)) : LDC w0 d A1 c1 A2 c2 A3 c3 A5 c5 (l.setIfInBounds 0 true) w v s4 s5 s6 s7 s8 s9 s10 s11 s12 :=
  ⟨(fun _ => hv), (fun h' => h.f1 (listed_set h' (by decide))), (fun h' => h.o2 (listed_set h' (by decide))), (fun h' => h.f3 (listed_set h' (by decide))), (fun h' => h.f4 (listed_set h' (by decide))), (fun h' => h.g5 (listed_set h' (by decide))), (fun h' => h.f6 (listed_set h' (by decide))), (fun h' => h.f7 (listed_set h' (by decide))), (fun h' => h.o8 (listed_set h' (by decide))), (fun h' => h.b9 (listed_set h' (by decide))), (fun h' => h.hr (listed_set h' (by decide))), (fun h1 h2 => h.pL (listed_set h1 (by decide)) (listed_set h2 (by decide))), (fun h1 h2 => h.pA (listed_set h1 (by decide)) (listed_set h2 (by decide))), (fun h' => h.hz (by rwa [listed_same (by decide)] at h')), h.hx, h.low, h.sz⟩
theorem LDC.up1 (h : LDC w0 d A1 c1 A2 c2 A3 c3 A5 c5 l w s3 s4 s5 s6 s7 s8 s9 s10 s11 s12) (hv : v = .agg #[.slice A1 d.t.us.length c1, .slice A2 d.t.bs.length c2, .slice A3 d.t.ns.length c3]) : LDC w0 d A1 c1 A2 c2 A3 c3 A5 c5 (l.setIfInBounds 1 true) w s3 v s5 s6 s7 s8 s9 s10 s11 s12 :=
  ⟨(fun h' => h.f0 (listed_set h' (by decide))), (fun _ => hv), (fun h' => h.o2 (listed_set h' (by decide))), (fun h' => h.f3 (listed_set h' (by decide))), (fun h' => h.f4 (listed_set h' (by decide))), (fun h' => h.g5 (listed_set h' (by decide))), (fun h' => h.f6 (listed_set h' (by decide))), (fun h' => h.f7 (listed_set h' (by decide))), (fun h' => h.o8 (listed_set h' (by decide))), (fun h' => h.b9 (listed_set h' (by decide))), (fun h' => h.hr (listed_set h' (by decide))), (fun h1 h2 => h.pL (listed_set h1 (by decide)) (listed_set h2 (by decide))), (fun h1 h2 => h.pA (listed_set h1 (by decide)) (listed_set h2 (by decide))), (fun h' => h.hz (by rwa [listed_same (by decide)] at h')), h.hx, h.low, h.sz⟩
theorem LDC.up2 (h : LDC w0 d A1 c1 A2 c2 A3 c3 A5 c5 l w s3 s4 s5 s6 s7 s8 s9 s10 s11 s12) (hv : LTng w' (w0.heap.size + 2) v d.t) (hfr : ∀ v1 v2 v3, v = .agg #[v1, v2, v3] → ∀ k, v2.ownBlock = some k → w.heap.size ≤ k) (hb : Below w.heap.size w w') : LDC w0 d A1 c1 A2 c2 A3 c3 A5 c5 (l.setIfInBounds 2 true) w' s3 s4 v s6 s7 s8 s9 s10 s11 s12 :=
  ⟨(fun h' => h.f0 (listed_set h' (by decide))), (fun h' => h.f1 (listed_set h' (by decide))), (fun _ => hv), (fun h' => h.f3 (listed_set h' (by decide))), (fun h' => h.f4 (listed_set h' (by decide))), (fun h' => (let ⟨g, e, b, hg⟩ := h.g5 (listed_set h' (by decide)); ⟨g, e, b.below hb b.lt, hg⟩)), (fun h' => h.f6 (listed_set h' (by decide))), (fun h' => h.f7 (listed_set h' (by decide))), (fun h' => (h.o8 (listed_set h' (by decide))).below hb (Nat.le_refl _)), (fun h' => (h.b9 (listed_set h' (by decide))).below hb (Nat.le_refl _)), (fun h' => (let ⟨u0, u1, u2, u3, u4, b, hd⟩ := h.hr (listed_set h' (by decide)); ⟨u0, u1, u2, u3, u4, b.below hb b.lt, hd.below hb (Nat.le_refl _)⟩)), (fun _ h2 v1 v2 v3 e k hk he => by obtain ⟨g, e2, b, -⟩ := h.g5 (listed_set h2 (by decide)); rw [e2] at he; have := b.lt; have := hfr v1 v2 v3 e k hk; simp [Value.ownBlock] at he; omega), (fun _ h2 v1 v2 v3 e k hk he => by have h3 := (World.ownsRow.lt (h.o8 (listed_set h2 (by decide))) k he).2; have := hfr v1 v2 v3 e k hk; omega), (fun h' => let b := h.hz (by rwa [listed_same (by decide)] at h'); b.below hb b.lt), h.hx.below hb h.hx.lt, h.low.trans (hb.mono h.low.size), Nat.le_trans h.sz hb.size⟩
theorem LDC.up3 (h : LDC w0 d A1 c1 A2 c2 A3 c3 A5 c5 l w s3 s4 s5 s6 s7 s8 s9 s10 s11 s12) (hv : v = .pointer (some ⟨w0.heap.size, 3, none⟩)) : LDC w0 d A1 c1 A2 c2 A3 c3 A5 c5 (l.setIfInBounds 3 true) w s3 s4 s5 v s7 s8 s9 s10 s11 s12 :=
  ⟨(fun h' => h.f0 (listed_set h' (by decide))), (fun h' => h.f1 (listed_set h' (by decide))), (fun h' => h.o2 (listed_set h' (by decide))), (fun _ => hv), (fun h' => h.f4 (listed_set h' (by decide))), (fun h' => h.g5 (listed_set h' (by decide))), (fun h' => h.f6 (listed_set h' (by decide))), (fun h' => h.f7 (listed_set h' (by decide))), (fun h' => h.o8 (listed_set h' (by decide))), (fun h' => h.b9 (listed_set h' (by decide))), (fun h' => h.hr (listed_set h' (by decide))), (fun h1 h2 => h.pL (listed_set h1 (by decide)) (listed_set h2 (by decide))), (fun h1 h2 => h.pA (listed_set h1 (by decide)) (listed_set h2 (by decide))), (fun h' => h.hz (by rwa [listed_same (by decide)] at h')), h.hx, h.low, h.sz⟩
theorem LDC.up4 (h : LDC w0 d A1 c1 A2 c2 A3 c3 A5 c5 l w s3 s4 s5 s6 s7 s8 s9 s10 s11 s12) (hv : v = .int .i64 d.now) : LDC w0 d A1 c1 A2 c2 A3 c3 A5 c5 (l.setIfInBounds 4 true) w s3 s4 s5 s6 v s8 s9 s10 s11 s12 :=
  ⟨(fun h' => h.f0 (listed_set h' (by decide))), (fun h' => h.f1 (listed_set h' (by decide))), (fun h' => h.o2 (listed_set h' (by decide))), (fun h' => h.f3 (listed_set h' (by decide))), (fun _ => hv), (fun h' => h.g5 (listed_set h' (by decide))), (fun h' => h.f6 (listed_set h' (by decide))), (fun h' => h.f7 (listed_set h' (by decide))), (fun h' => h.o8 (listed_set h' (by decide))), (fun h' => h.b9 (listed_set h' (by decide))), (fun h' => h.hr (listed_set h' (by decide))), (fun h1 h2 => h.pL (listed_set h1 (by decide)) (listed_set h2 (by decide))), (fun h1 h2 => h.pA (listed_set h1 (by decide)) (listed_set h2 (by decide))), (fun h' => h.hz (by rwa [listed_same (by decide)] at h')), h.hx, h.low, h.sz⟩
theorem LDC.up5 (h : LDC w0 d A1 c1 A2 c2 A3 c3 A5 c5 l w s3 s4 s5 s6 s7 s8 s9 s10 s11 s12)  : LDC w0 d A1 c1 A2 c2 A3 c3 A5 c5 (l.setIfInBounds 5 true) (w.alloc (.cells #[] 3)) s3 s4 s5 s6 s7 (.slice (some ⟨w.heap.size, 0, none⟩) 0 0) s9 s10 s11 s12 := by
  have hb := (Below.refl w.heap.size w).alloc (Nat.le_refl _) (.cells #[] 3)
  exact ⟨(fun h' => h.f0 (listed_set h' (by decide))), (fun h' => h.f1 (listed_set h' (by decide))), (fun h' => (h.o2 (listed_set h' (by decide))).below hb (Nat.le_refl _)), (fun h' => h.f3 (listed_set h' (by decide))), (fun h' => h.f4 (listed_set h' (by decide))), (fun _ => ⟨w.heap.size, rfl, Blk.new _ _ _, h.sz⟩), (fun h' => h.f6 (listed_set h' (by decide))), (fun h' => h.f7 (listed_set h' (by decide))), (fun h' => (h.o8 (listed_set h' (by decide))).below hb (Nat.le_refl _)), (fun h' => (h.b9 (listed_set h' (by decide))).below hb (Nat.le_refl _)), (fun h' => (let ⟨u0, u1, u2, u3, u4, b, hd⟩ := h.hr (listed_set h' (by decide)); ⟨u0, u1, u2, u3, u4, b.below hb b.lt, hd.below hb (Nat.le_refl _)⟩)), (fun h1 _ v1 v2 v3 e k hk he => by obtain ⟨w1, w2, w3, e2, -, o2, -⟩ := (h.o2 (listed_set h1 (by decide))).ex; rw [e] at e2; cases e2; have := (World.ownsRow.lt o2 k hk).2; simp [Value.ownBlock] at he; omega), (fun h1 h2 => h.pA (listed_set h1 (by decide)) (listed_set h2 (by decide))), (fun h' => let b := h.hz (by rwa [listed_same (by decide)] at h'); b.below hb b.lt), h.hx.below hb h.hx.lt, h.low.trans (hb.mono h.low.size), Nat.le_trans h.sz hb.size⟩
theorem LDC.up6 (h : LDC w0 d A1 c1 A2 c2 A3 c3 A5 c5 l w s3 s4 s5 s6 s7 s8 s9 s10 s11 s12) (hv : v = .pointer (some ⟨w0.heap.size, 4, none⟩)) : LDC w0 d A1 c1 A2 c2 A3 c3 A5 c5 (l.setIfInBounds 6 true) w s3 s4 s5 s6 s7 s8 v s10 s11 s12 :=
  ⟨(fun h' => h.f0 (listed_set h' (by decide))), (fun h' => h.f1 (listed_set h' (by decide))), (fun h' => h.o2 (listed_set h' (by decide))), (fun h' => h.f3 (listed_set h' (by decide))), (fun h' => h.f4 (listed_set h' (by decide))), (fun h' => h.g5 (listed_set h' (by decide))), (fun _ => hv), (fun h' => h.f7 (listed_set h' (by decide))), (fun h' => h.o8 (listed_set h' (by decide))), (fun h' => h.b9 (listed_set h' (by decide))), (fun h' => h.hr (listed_set h' (by decide))), (fun h1 h2 => h.pL (listed_set h1 (by decide)) (listed_set h2 (by decide))), (fun h1 h2 => h.pA (listed_set h1 (by decide)) (listed_set h2 (by decide))), (fun h' => h.hz (by rwa [listed_same (by decide)] at h')), h.hx, h.low, h.sz⟩
theorem LDC.up7 (h : LDC w0 d A1 c1 A2 c2 A3 c3 A5 c5 l w s3 s4 s5 s6 s7 s8 s9 s10 s11 s12) (hv : v = .slice A5 d.past.length c5) : LDC w0 d A1 c1 A2 c2 A3 c3 A5 c5 (l.setIfInBounds 7 true) w s3 s4 s5 s6 s7 s8 s9 v s11 s12 :=
  ⟨(fun h' => h.f0 (listed_set h' (by decide))), (fun h' => h.f1 (listed_set h' (by decide))), (fun h' => h.o2 (listed_set h' (by decide))), (fun h' => h.f3 (listed_set h' (by decide))), (fun h' => h.f4 (listed_set h' (by decide))), (fun h' => h.g5 (listed_set h' (by decide))), (fun h' => h.f6 (listed_set h' (by decide))), (fun _ => hv), (fun h' => h.o8 (listed_set h' (by decide))), (fun h' => h.b9 (listed_set h' (by decide))), (fun h' => h.hr (listed_set h' (by decide))), (fun h1 h2 => h.pL (listed_set h1 (by decide)) (listed_set h2 (by decide))), (fun h1 h2 => h.pA (listed_set h1 (by decide)) (listed_set h2 (by decide))), (fun h' => h.hz (by rwa [listed_same (by decide)] at h')), h.hx, h.low, h.sz⟩
theorem LDC.up8 (h : LDC w0 d A1 c1 A2 c2 A3 c3 A5 c5 l w s3 s4 s5 s6 s7 s8 s9 s10 s11 s12) (hv : OwnI w' (w0.heap.size + 2) v d.past) (hat : ∀ v1 v2 v3, s5 = .agg #[v1, v2, v3] → ∀ k, l.getD 2 false = true → v2.ownBlock = some k → v.ownBlock ≠ some k) (hb : Below w.heap.size w w') : LDC w0 d A1 c1 A2 c2 A3 c3 A5 c5 (l.setIfInBounds 8 true) w' s3 s4 s5 s6 s7 s8 s9 s10 v s12 :=
  ⟨(fun h' => h.f0 (listed_set h' (by decide))), (fun h' => h.f1 (listed_set h' (by decide))), (fun h' => (h.o2 (listed_set h' (by decide))).below hb (Nat.le_refl _)), (fun h' => h.f3 (listed_set h' (by decide))), (fun h' => h.f4 (listed_set h' (by decide))), (fun h' => (let ⟨g, e, b, hg⟩ := h.g5 (listed_set h' (by decide)); ⟨g, e, b.below hb b.lt, hg⟩)), (fun h' => h.f6 (listed_set h' (by decide))), (fun h' => h.f7 (listed_set h' (by decide))), (fun _ => hv), (fun h' => (h.b9 (listed_set h' (by decide))).below hb (Nat.le_refl _)), (fun h' => (let ⟨u0, u1, u2, u3, u4, b, hd⟩ := h.hr (listed_set h' (by decide)); ⟨u0, u1, u2, u3, u4, b.below hb b.lt, hd.below hb (Nat.le_refl _)⟩)), (fun h1 h2 => h.pL (listed_set h1 (by decide)) (listed_set h2 (by decide))), (fun h1 _ v1 v2 v3 e k hk he => hat v1 v2 v3 e k (listed_set h1 (by decide)) hk he), (fun h' => let b := h.hz (by rwa [listed_same (by decide)] at h'); b.below hb b.lt), h.hx.below hb h.hx.lt, h.low.trans (hb.mono h.low.size), Nat.le_trans h.sz hb.size⟩
theorem LDC.up9 (h : LDC w0 d A1 c1 A2 c2 A3 c3 A5 c5 l w s3 s4 s5 s6 s7 s8 s9 s10 s11 s12) (hv : LDk w (w0.heap.size + 2) v d) : LDC w0 d A1 c1 A2 c2 A3 c3 A5 c5 (l.setIfInBounds 9 true) w s3 s4 s5 s6 s7 s8 s9 s10 s11 v :=
  ⟨(fun h' => h.f0 (listed_set h' (by decide))), (fun h' => h.f1 (listed_set h' (by decide))), (fun h' => h.o2 (listed_set h' (by decide))), (fun h' => h.f3 (listed_set h' (by decide))), (fun h' => h.f4 (listed_set h' (by decide))), (fun h' => h.g5 (listed_set h' (by decide))), (fun h' => h.f6 (listed_set h' (by decide))), (fun h' => h.f7 (listed_set h' (by decide))), (fun h' => h.o8 (listed_set h' (by decide))), (fun _ => hv), (fun h' => h.hr (listed_set h' (by decide))), (fun h1 h2 => h.pL (listed_set h1 (by decide)) (listed_set h2 (by decide))), (fun h1 h2 => h.pA (listed_set h1 (by decide)) (listed_set h2 (by decide))), (fun h' => h.hz (by rwa [listed_same (by decide)] at h')), h.hx, h.low, h.sz⟩
theorem LDC.up10 (h : LDC w0 d A1 c1 A2 c2 A3 c3 A5 c5 l w s3 s4 s5 s6 s7 s8 s9 s10 s11 s12) {u0 u1 u2 u3 u4 : Value} (hsz : l.size = 11) (hun : l.getD 10 false = false) (hv : LDk w (w0.heap.size + 2) (.agg #[u0, u1, u2, u3, u4]) d) (hxq : w0.heap.size ≠ (w0.heap.size + 1)) : LDC w0 d A1 c1 A2 c2 A3 c3 A5 c5 (l.setIfInBounds 10 true) (((((w.setCell ⟨(w0.heap.size + 1), 0, none⟩ u0).setCell ⟨(w0.heap.size + 1), 1, none⟩ u1).setCell ⟨(w0.heap.size + 1), 2, none⟩ u2).setCell ⟨(w0.heap.size + 1), 3, none⟩ u3).setCell ⟨(w0.heap.size + 1), 4, none⟩ u4) s3 s4 s5 s6 s7 s8 s9 s10 s11 s12 := by
  have HB : Blk (((((w.setCell ⟨(w0.heap.size + 1), 0, none⟩ u0).setCell ⟨(w0.heap.size + 1), 1, none⟩ u1).setCell ⟨(w0.heap.size + 1), 2, none⟩ u2).setCell ⟨(w0.heap.size + 1), 3, none⟩ u3).setCell ⟨(w0.heap.size + 1), 4, none⟩ u4) (w0.heap.size + 1) 33 #[u0, u1, u2, u3, u4] := by
    have := (Blk.set_ (Blk.set_ (Blk.set_ (Blk.set_ (Blk.set_ (h.hz hun) 0 u0) 1 u1) 2 u2) 3 u3) 4 u4)
    simpa using this
  have HS : ∀ {B : Nat} {v : Value} {xs : List ByteArray}, OwnStrs w B v xs → OwnStrs (((((w.setCell ⟨(w0.heap.size + 1), 0, none⟩ u0).setCell ⟨(w0.heap.size + 1), 1, none⟩ u1).setCell ⟨(w0.heap.size + 1), 2, none⟩ u2).setCell ⟨(w0.heap.size + 1), 3, none⟩ u3).setCell ⟨(w0.heap.size + 1), 4, none⟩ u4) B v xs := fun {B v xs} ho => by
    have m := own_blk_ne ho (h.hz hun) (by decide)
    exact (own_set (own_set (own_set (own_set (own_set ho m) m) m) m) m)
  have HI : ∀ {B : Nat} {v : Value} {xs : List Int}, OwnI w B v xs → OwnI (((((w.setCell ⟨(w0.heap.size + 1), 0, none⟩ u0).setCell ⟨(w0.heap.size + 1), 1, none⟩ u1).setCell ⟨(w0.heap.size + 1), 2, none⟩ u2).setCell ⟨(w0.heap.size + 1), 3, none⟩ u3).setCell ⟨(w0.heap.size + 1), 4, none⟩ u4) B v xs := fun {B v xs} ho => by
    have m := own_blk_ne ho (h.hz hun) (by decide)
    exact (own_set (own_set (own_set (own_set (own_set ho m) m) m) m) m)
  have HRS := @HS
  have HRI := @HI
  have HRT : ∀ {B : Nat} {v : Value} {t : Tg}, LTng w B v t → LTng (((((w.setCell ⟨(w0.heap.size + 1), 0, none⟩ u0).setCell ⟨(w0.heap.size + 1), 1, none⟩ u1).setCell ⟨(w0.heap.size + 1), 2, none⟩ u2).setCell ⟨(w0.heap.size + 1), 3, none⟩ u3).setCell ⟨(w0.heap.size + 1), 4, none⟩ u4) B v t := fun {B v t} ho => by
    obtain ⟨v1, v2, v3, e, o1, o2, o3⟩ := ho.ex
    exact ⟨v1, v2, v3, e, HS o1, HI o2, HS o3⟩
  have HRB : ∀ {v : Value}, LDk w (w0.heap.size + 2) v d → LDk (((((w.setCell ⟨(w0.heap.size + 1), 0, none⟩ u0).setCell ⟨(w0.heap.size + 1), 1, none⟩ u1).setCell ⟨(w0.heap.size + 1), 2, none⟩ u2).setCell ⟨(w0.heap.size + 1), 3, none⟩ u3).setCell ⟨(w0.heap.size + 1), 4, none⟩ u4) (w0.heap.size + 2) v d := fun {v} ho => by
    obtain ⟨v1, v2, v3, v5, e, h1, h2, h3⟩ := ho.ex
    exact ⟨v1, v2, v3, v5, e, HRT h1, HI h2, h3⟩
  have HL : ∀ {g : Nat} {t : TypeId}, Blk w g t #[] → t ≠ 33 → Blk (((((w.setCell ⟨(w0.heap.size + 1), 0, none⟩ u0).setCell ⟨(w0.heap.size + 1), 1, none⟩ u1).setCell ⟨(w0.heap.size + 1), 2, none⟩ u2).setCell ⟨(w0.heap.size + 1), 3, none⟩ u3).setCell ⟨(w0.heap.size + 1), 4, none⟩ u4) g t #[] := fun {g t} b hne => by
    have m : g ≠ (w0.heap.size + 1) := fun e => by
      subst e
      have e1 := b
      have e2 := (h.hz hun)
      unfold Blk at e1 e2
      rw [e1] at e2
      injection e2 with e2
      injection e2 with _ e3
      exact hne e3
    exact (Blk.far (Blk.far (Blk.far (Blk.far (Blk.far b (p := ⟨(w0.heap.size + 1), 0, none⟩) m u0) (p := ⟨(w0.heap.size + 1), 1, none⟩) m u1) (p := ⟨(w0.heap.size + 1), 2, none⟩) m u2) (p := ⟨(w0.heap.size + 1), 3, none⟩) m u3) (p := ⟨(w0.heap.size + 1), 4, none⟩) m u4)
  have HX : Blk (((((w.setCell ⟨(w0.heap.size + 1), 0, none⟩ u0).setCell ⟨(w0.heap.size + 1), 1, none⟩ u1).setCell ⟨(w0.heap.size + 1), 2, none⟩ u2).setCell ⟨(w0.heap.size + 1), 3, none⟩ u3).setCell ⟨(w0.heap.size + 1), 4, none⟩ u4) (w0.heap.size) 33 #[.slice A1 d.t.us.length c1, .slice A2 d.t.bs.length c2, .slice A3 d.t.ns.length c3, .int .i64 d.now, .slice A5 d.past.length c5] := (Blk.far (Blk.far (Blk.far (Blk.far (Blk.far h.hx (p := ⟨(w0.heap.size + 1), 0, none⟩) hxq u0) (p := ⟨(w0.heap.size + 1), 1, none⟩) hxq u1) (p := ⟨(w0.heap.size + 1), 2, none⟩) hxq u2) (p := ⟨(w0.heap.size + 1), 3, none⟩) hxq u3) (p := ⟨(w0.heap.size + 1), 4, none⟩) hxq u4)
  have HLow : Below w0.heap.size w0 (((((w.setCell ⟨(w0.heap.size + 1), 0, none⟩ u0).setCell ⟨(w0.heap.size + 1), 1, none⟩ u1).setCell ⟨(w0.heap.size + 1), 2, none⟩ u2).setCell ⟨(w0.heap.size + 1), 3, none⟩ u3).setCell ⟨(w0.heap.size + 1), 4, none⟩ u4) := (Below.setCell (Below.setCell (Below.setCell (Below.setCell (Below.setCell h.low (p := ⟨(w0.heap.size + 1), 0, none⟩) (by simp) u0) (p := ⟨(w0.heap.size + 1), 1, none⟩) (by simp) u1) (p := ⟨(w0.heap.size + 1), 2, none⟩) (by simp) u2) (p := ⟨(w0.heap.size + 1), 3, none⟩) (by simp) u3) (p := ⟨(w0.heap.size + 1), 4, none⟩) (by simp) u4)
  have HV := HRB hv
  exact ⟨(fun h' => h.f0 (listed_set h' (by decide))), (fun h' => h.f1 (listed_set h' (by decide))), (fun h' => HRT (h.o2 (listed_set h' (by decide)))), (fun h' => h.f3 (listed_set h' (by decide))), (fun h' => h.f4 (listed_set h' (by decide))), (fun h' => let ⟨g, e, b, hg⟩ := h.g5 (listed_set h' (by decide)); ⟨g, e, HL b (by decide), hg⟩), (fun h' => h.f6 (listed_set h' (by decide))), (fun h' => h.f7 (listed_set h' (by decide))), (fun h' => HRI (h.o8 (listed_set h' (by decide)))), (fun h' => HRB (h.b9 (listed_set h' (by decide)))), (fun _ => ⟨_, _, _, _, _, HB, HV⟩), (fun h1 h2 => h.pL (listed_set h1 (by decide)) (listed_set h2 (by decide))), (fun h1 h2 => h.pA (listed_set h1 (by decide)) (listed_set h2 (by decide))), (fun h' => by rw [listed_at (by omega)] at h'; cases h'), HX, HLow, by simpa using h.sz⟩
end

def RetLD (w : World) (d : Dk) (e : Ending) (w' : World) : Prop := ∃ v, e = .returned v ∧ LDk w' w.heap.size v d ∧ Below w.heap.size w w'
set_option maxRecDepth 100000 in
set_option maxHeartbeats 8000000 in
theorem specCopy_any (v : Value) (d : Dk) (w0 : World) (h : Dsk w0 v d) (hf : d.Fine) :
    Calls Tryz.prog 62 #[v] w0 (RetLD w0 d) := by
  obtain ⟨is0, his, hzs0, hzs1, hzs2⟩ := info_parts str_info
  obtain ⟨ii0, hii, hzi0, hzi1, hzi2⟩ := info_parts int_info0
  obtain ⟨A1, c1, A2, c2, A3, c3, A5, c5, rfl, h1, h2, h3, h5⟩ := h.ex
  have hp := hf.past
  have hft := hf.t
  have HS5 := Lib.hid (fun W (hb : Below w0.heap.size w0 W) => (h5.below hb (Nat.le_refl _)).src)
  have KT := Lib.hid (fun W (hb : Below w0.heap.size w0 W) => specTongue_any (.agg #[.slice A1 d.t.us.length c1, .slice A2 d.t.bs.length c2, .slice A3 d.t.ns.length c3]) d.t W ⟨A1, c1, A2, c2, A3, c3, rfl, h1.below hb (Nat.le_refl _), h2.below hb (Nat.le_refl _), h3.below hb (Nat.le_refl _)⟩ hft)
  have hB := ((Below.refl w0.heap.size w0).alloc (Nat.le_refl _) (.cells #[.slice A1 d.t.us.length c1, .slice A2 d.t.bs.length c2, .slice A3 d.t.ns.length c3, .int .i64 d.now, .slice A5 d.past.length c5] 33)).alloc (by simp) (.cells #[.slice none 0 0, .slice none 0 0, .slice none 0 0, .int .i64 0, .slice none 0 0] 33)
  have HX := (Blk.new w0 33 #[.slice A1 d.t.us.length c1, .slice A2 d.t.bs.length c2, .slice A3 d.t.ns.length c3, .int .i64 d.now, .slice A5 d.past.length c5]).alloc (.cells #[.slice none 0 0, .slice none 0 0, .slice none 0 0, .int .i64 0, .slice none 0 0] 33)
  have HZ : Blk ((w0.alloc (.cells #[.slice A1 d.t.us.length c1, .slice A2 d.t.bs.length c2, .slice A3 d.t.ns.length c3, .int .i64 d.now, .slice A5 d.past.length c5] 33)).alloc (.cells #[.slice none 0 0, .slice none 0 0, .slice none 0 0, .int .i64 0, .slice none 0 0] 33)) (w0.heap.size + 1) 33 #[.slice none 0 0, .slice none 0 0, .slice none 0 0, .int .i64 0, .slice none 0 0] := blk_new_at _ (by simp)
  have hsW : ((w0.alloc (.cells #[.slice A1 d.t.us.length c1, .slice A2 d.t.bs.length c2, .slice A3 d.t.ns.length c3, .int .i64 d.now, .slice A5 d.past.length c5] 33)).alloc (.cells #[.slice none 0 0, .slice none 0 0, .slice none 0 0, .int .i64 0, .slice none 0 0] 33)).heap.size = w0.heap.size + 2 := by simp
  replace hB := Lib.hid hB
  replace HX := Lib.hid HX
  replace HZ := Lib.hid HZ
  replace hsW := Lib.hid hsW
  clear h h1 h2 h3 h5 hf hft
  go_enter Tryz.func62, Tryz.ntmps62
  go_upto_region 1 with (fail)
  generalize (w0.alloc (.cells #[.slice A1 d.t.us.length c1, .slice A2 d.t.bs.length c2, .slice A3 d.t.ns.length c3, .int .i64 d.now, .slice A5 d.past.length c5] 33)).alloc (.cells #[.slice none 0 0, .slice none 0 0, .slice none 0 0, .int .i64 0, .slice none 0 0] 33) = W at *
  refine wp_region_any (by kernel_rfl) ?_
  refine wpAny_inv (Inv := fun l a w' => ∃ (s3 s4 s5 s6 s7 s8 s9 s10 s11 s12 : Value), a = ⟨#[.agg #[.slice A1 d.t.us.length c1, .slice A2 d.t.bs.length c2, .slice A3 d.t.ns.length c3, .int .i64 d.now, .slice A5 d.past.length c5], .pointer (some ⟨w0.heap.size, 0, none⟩), .pointer (some ⟨w0.heap.size + 1, 0, none⟩), s3, s4, s5, s6, s7, s8, s9, s10, s11, s12], []⟩ ∧ LDC w0 d A1 c1 A2 c2 A3 c3 A5 c5 l w' s3 s4 s5 s6 s7 s8 s9 s10 s11 s12) (ord_spec (by kernel_rfl)) ?_ ?_ _ _ _ _ rfl (by decide) ?_
  · rintro l a w' ⟨s3, s4, s5, s6, s7, s8, s9, s10, s11, s12, rfl, hF⟩ hsz hl
    have hl' : ∀ j, j < 11 → l.getD j false = true := hl
    obtain ⟨u0, u1, u2, u3, u4, HB, HV⟩ := hF.hr (hl' 10 (by decide))
    obtain ⟨r0, r1, r2, r3, r4⟩ := (blk5 HB).1
    have HR : RetLD w0 d (.returned (.agg #[u0, u1, u2, u3, u4])) w' := ⟨_, rfl, HV.mono (by omega), hF.low⟩
    replace HR := Lib.hid HR
    clear hF hl hl' hsz HB HV
    go_wp2
    refine bodyPost_ret (v := .agg #[u0, u1, u2, u3, u4]) (by simp [results, Tryz.results62, go_sem, r0, r1, r2, r3, r4]) rfl ?_
    exact HR.out
  · rintro l a w' ⟨s3, s4, s5, s6, s7, s8, s9, s10, s11, s12, rfl, hF⟩ hsz i o hlt ho hun hall
    have hlt' : i < 11 := hlt
    refine wpOp_step ho (fun K' hK => ?_)
    replace hK := Lib.hid hK
    obtain rfl | rfl | rfl | rfl | rfl | rfl | rfl | rfl | rfl | rfl | rfl : i = 0 ∨ i = 1 ∨ i = 2 ∨ i = 3 ∨ i = 4 ∨ i = 5 ∨ i = 6 ∨ i = 7 ∨ i = 8 ∨ i = 9 ∨ i = 10 := by omega
    · simp only [List.getElem?_toArray, List.getElem?_cons_zero, Option.some.injEq] at ho
      subst ho
      replace hF := Lib.hid hF
      clear hall
      go_simp
      refine hK.out _ _ ?_
      exact ⟨_, _, _, _, _, _, _, _, _, _, rfl, hF.out.up0 rfl⟩
    · simp only [List.getElem?_toArray, List.getElem?_cons_succ, List.getElem?_cons_zero, Option.some.injEq] at ho
      subst ho
      have e0 := hF.f0 (hall ⟨0, Ground.data⟩ (by simp) rfl)
      subst e0
      obtain ⟨x0, x1, x2, x3, x4⟩ := (blk5 hF.hx).1
      replace hF := Lib.hid hF
      clear hall
      go_simp
      refine hK.out _ _ ?_
      exact ⟨_, _, _, _, _, _, _, _, _, _, rfl, hF.out.up1 rfl⟩
    · simp only [List.getElem?_toArray, List.getElem?_cons_succ, List.getElem?_cons_zero, Option.some.injEq] at ho
      subst ho
      have e1 := hF.f1 (hall ⟨1, Ground.data⟩ (by simp) rfl)
      subst e1
      have hlow := hF.low
      have hsB := hF.sz
      have K := Lib.hid (KT.out w' hlow)
      clear hlow
      replace hF := Lib.hid hF
      clear hall
      go_simp
      go_at_call 113
      refine K.out.mono ?_
      rintro e V ⟨v, rfl, ho', hb'⟩
      obtain ⟨B1, d1, B1', d1', B1'', d1'', rfl⟩ := ho'.shape
      have hv := ho'.mono hsB
      go_simp
      refine hK.out _ _ ?_
      exact ⟨_, _, _, _, _, _, _, _, _, _, rfl, hF.out.up2 hv (fun v1 v2 v3 e k hk => by cases e; obtain ⟨w1, w2, w3, e2, -, o2, -⟩ := ho'.ex; cases e2; exact (World.ownsRow.lt o2 k hk).1) hb'⟩
    · simp only [List.getElem?_toArray, List.getElem?_cons_succ, List.getElem?_cons_zero, Option.some.injEq] at ho
      subst ho
      replace hF := Lib.hid hF
      clear hall
      go_simp
      refine hK.out _ _ ?_
      exact ⟨_, _, _, _, _, _, _, _, _, _, rfl, hF.out.up3 rfl⟩
    · simp only [List.getElem?_toArray, List.getElem?_cons_succ, List.getElem?_cons_zero, Option.some.injEq] at ho
      subst ho
      have e3 := hF.f3 (hall ⟨3, Ground.data⟩ (by simp) rfl)
      subst e3
      obtain ⟨x0, x1, x2, x3, x4⟩ := (blk5 hF.hx).1
      replace hF := Lib.hid hF
      clear hall
      go_simp
      refine hK.out _ _ ?_
      exact ⟨_, _, _, _, _, _, _, _, _, _, rfl, hF.out.up4 rfl⟩
    · simp only [List.getElem?_toArray, List.getElem?_cons_succ, List.getElem?_cons_zero, Option.some.injEq] at ho
      subst ho
      replace hF := Lib.hid hF
      clear hall
      go_simp
      refine hK.out _ _ ?_
      exact ⟨_, _, _, _, _, _, _, _, _, _, rfl, hF.out.up5⟩
    · simp only [List.getElem?_toArray, List.getElem?_cons_succ, List.getElem?_cons_zero, Option.some.injEq] at ho
      subst ho
      replace hF := Lib.hid hF
      clear hall
      go_simp
      refine hK.out _ _ ?_
      exact ⟨_, _, _, _, _, _, _, _, _, _, rfl, hF.out.up6 rfl⟩
    · simp only [List.getElem?_toArray, List.getElem?_cons_succ, List.getElem?_cons_zero, Option.some.injEq] at ho
      subst ho
      have e6 := hF.f6 (hall ⟨6, Ground.data⟩ (by simp) rfl)
      subst e6
      obtain ⟨x0, x1, x2, x3, x4⟩ := (blk5 hF.hx).1
      replace hF := Lib.hid hF
      clear hall
      go_simp
      refine hK.out _ _ ?_
      exact ⟨_, _, _, _, _, _, _, _, _, _, rfl, hF.out.up7 rfl⟩
    · simp only [List.getElem?_toArray, List.getElem?_cons_succ, List.getElem?_cons_zero, Option.some.injEq] at ho
      subst ho
      have e7 := hF.f7 (hall ⟨7, Ground.data⟩ (by simp) rfl)
      subst e7
      obtain ⟨g, eg, bg, hBg⟩ := hF.g5 (hall ⟨5, Ground.data⟩ (by simp) rfl)
      have h5l := (hall ⟨5, Ground.data⟩ (by simp) rfl)
      subst eg
      have hsB := hF.sz
      have hs1 := HS5.out w' hF.low
      replace hF := Lib.hid hF
      replace hs1 := Lib.hid hs1
      replace bg := Lib.hid bg
      clear hall
      refine step_app0 _ rfl (.tmp 8) (.tmp 10) _ rfl ((w0.heap.size + 2)) 3 ii0 _ 8 Tryz.underlying29 hii hzi0 hzi1 hzi2 rfl g rfl bg.out hBg A5 d.past.length c5 _ rfl hs1.out (by unfold maxLen; omega) (by omega) hsB ?_
      intro v8 w8 ho8 hb8 hat8
      have hv : OwnI w8 (w0.heap.size + 2) v8 d.past := ho8
      refine hK.out _ _ ?_
      exact ⟨_, _, _, _, _, _, _, _, _, _, rfl, hF.out.up8 hv (fun v1 v2 v3 e k h2 hk he => hat8.elim (fun h8 => hF.out.pL h2 h5l v1 v2 v3 e k hk (by rw [h8] at he; exact he)) (fun h8 => by rw [h8] at he; obtain ⟨w1, w2, w3, e2, -, o2, -⟩ := (hF.out.o2 h2).ex; rw [e] at e2; cases e2; have := (World.ownsRow.lt o2 k hk).2; injection he with he; omega)) hb8⟩
    · simp only [List.getElem?_toArray, List.getElem?_cons_succ, List.getElem?_cons_zero, Option.some.injEq] at ho
      subst ho
      have h1 := hF.o2 (hall ⟨2, Ground.data⟩ (by simp) rfl)
      obtain ⟨B1, d1, B1', d1', B1'', d1'', e1⟩ := h1.shape
      subst e1
      have h2 := hF.o8 (hall ⟨8, Ground.data⟩ (by simp) rfl)
      obtain ⟨B2, d2, e2⟩ := h2.shape
      subst e2
      have e4 := hF.f4 (hall ⟨4, Ground.data⟩ (by simp) rfl)
      subst e4
      have hv : LDk w' (w0.heap.size + 2) (.agg #[.slice B1 d.t.us.length d1, .slice B1' d.t.bs.length d1', .slice B1'' d.t.ns.length d1'', .int .i64 d.now, .slice B2 d.past.length d2]) d := ⟨_, _, _, _, rfl, h1, h2, hF.pA (hall ⟨2, Ground.data⟩ (by simp) rfl) (hall ⟨8, Ground.data⟩ (by simp) rfl) _ _ _ rfl⟩
      replace hF := Lib.hid hF
      clear hall
      go_simp
      refine hK.out _ _ ?_
      exact ⟨_, _, _, _, _, _, _, _, _, _, rfl, hF.out.up9 hv⟩
    · simp only [List.getElem?_toArray, List.getElem?_cons_succ, List.getElem?_cons_zero, Option.some.injEq] at ho
      subst ho
      have hv := hF.b9 (hall ⟨9, Ground.data⟩ (by simp) rfl)
      obtain ⟨B1, d1, B2, d2, B3, d3, B5, d5, e1, -⟩ := hv.dsk.ex
      subst e1
      obtain ⟨⟨r0, r1, r2, r3, r4⟩, ⟨f0, f1, f2, f3, f4⟩⟩ := blk5 (hF.hz hun)
      have hlw := hF.low.size
      replace hF := Lib.hid hF
      clear hall
      go_simp
      refine hK.out _ _ ?_
      exact ⟨_, _, _, _, _, _, _, _, _, _, rfl, hF.out.up10 hsz hun hv (by omega)⟩
  · exact ⟨_, _, _, _, _, _, _, _, _, _, rfl, (fun h => by simp at h), (fun h => by simp at h), (fun h => by simp at h), (fun h => by simp at h), (fun h => by simp at h), (fun h => by simp at h), (fun h => by simp at h), (fun h => by simp at h), (fun h => by simp at h), (fun h => by simp at h), (fun h => by simp at h), (fun h _ => by simp at h), (fun h _ => by simp at h), (fun _ => HZ.out.drew), HX.out.drew, hB.out.drew, by have := hsW.out; simpa using Nat.le_of_eq this.symm⟩
end Go.Proofs.YtmhgpbfogdoaeaaGreatDoor

/- Jc -/
namespace Go.Proofs.YtmhgpbfogdoaeaaGreatDoor
open Go.RowKit

set_option maxRecDepth 100000 in
set_option maxHeartbeats 4000000 in
theorem specDeskNew_any (v : Value) (t : Tg) (n : Int) (w : World) (h : Tng w v t) (hf : t.Fine) (hn : -9223372036854775808 ≤ n ∧ n ≤ 9223372036854775807) :
    Calls Tryz.prog 96 #[v, .int .i64 n] w (RetMB w (dkNew t n) (namedB t n)) := by
  obtain ⟨A1, c1, A2, c2, A3, c3, rfl, -⟩ := h.ex
  have hB := ((Below.refl w.heap.size w).alloc (Nat.le_refl _) (.cells #[.slice A1 t.us.length c1, .slice A2 t.bs.length c2, .slice A3 t.ns.length c3] 31)).alloc (by simp) (.cells #[.slice none 0 0, .slice none 0 0, .slice none 0 0, .int .i64 0, .slice none 0 0] 33)
  have HX := (Blk.new w 31 #[.slice A1 t.us.length c1, .slice A2 t.bs.length c2, .slice A3 t.ns.length c3]).alloc (.cells #[.slice none 0 0, .slice none 0 0, .slice none 0 0, .int .i64 0, .slice none 0 0] 33)
  have HZ : Blk ((w.alloc (.cells #[.slice A1 t.us.length c1, .slice A2 t.bs.length c2, .slice A3 t.ns.length c3] 31)).alloc (.cells #[.slice none 0 0, .slice none 0 0, .slice none 0 0, .int .i64 0, .slice none 0 0] 33)) (w.heap.size + 1) 33 #[.slice none 0 0, .slice none 0 0, .slice none 0 0, .int .i64 0, .slice none 0 0] := blk_new_at _ (by simp)
  have HT := h.below hB (Nat.le_refl _)
  have K1 := Lib.hid (specNameOf_any _ t n _ HT hf hn)
  have hnew : namedB t n = true → dkNew t n = ⟨t, n, []⟩ := fun e => (dk_new_ok e).1
  have hno : namedB t n = false → dkNew t n = noDk := dk_new_no
  generalize namedB t n = nb at *
  generalize nameOf t n = xs at *
  generalize dkNew t n = dn at *
  replace hnew := Lib.hid hnew
  replace hno := Lib.hid hno
  replace hf := Lib.hid hf
  replace hB := Lib.hid hB
  replace HX := Lib.hid HX
  replace HZ := Lib.hid HZ
  replace HT := Lib.hid HT
  clear h
  go_enter Tryz.func96, Tryz.ntmps96
  go_upto_region 1 with (fail)
  generalize (w.alloc (.cells #[.slice A1 t.us.length c1, .slice A2 t.bs.length c2, .slice A3 t.ns.length c3] 31)).alloc (.cells #[.slice none 0 0, .slice none 0 0, .slice none 0 0, .int .i64 0, .slice none 0 0] 33) = W at *
  obtain ⟨x0, x1, x2, -, -, -⟩ := blk3 HX.out
  go_wp2_with (fail)
  refine K1.out.mono ?_
  rintro e w1 ⟨v1, rfl, -, b1⟩
  have hB1 := Lib.hid (hB.out.trans (b1.mono hB.out.size))
  have HX1 := HX.out.below b1 HX.out.lt
  have HZ1 := HZ.out.below b1 HZ.out.lt
  have HT1 := HT.out.below b1 (Nat.le_refl _)
  clear x0 x1 x2 K1 b1 HX HZ HT hB
  obtain ⟨x0, x1, x2, -, -, -⟩ := blk3 HX1
  obtain ⟨⟨z0, z1, z2, z3, z4⟩, ⟨e0, e1, e2, e3, e4⟩⟩ := blk5 HZ1
  cases nb
  · have hg := Lib.hid (hno.out rfl)
    have HF := fun u0 u1 u2 u3 u4 => own_md5 (u0 := u0) (u1 := u1) (u2 := u2) (u3 := u3) (u4 := u4) (own_mdNo w1 w.heap.size) HZ1
    have HG := fun u0 u1 u2 u3 u4 => below_dk5 (u0 := u0) (u1 := u1) (u2 := u2) (u3 := u3) (u4 := u4) (g := w.heap.size + 1) hB1.out (by omega)
    replace HF := Lib.hid HF
    replace HG := Lib.hid HG
    clear HX1 HZ1 HT1 hnew hno
    go_wp2
    refine bodyPost_ret (v := .tuple #[.agg #[.slice none 0 0, .slice none 0 0, .slice none 0 0, .int .i64 0, .slice none 0 0], .bool false]) (by simp [results, Tryz.results96, go_sem, z0, z1, z2, z3, z4]) rfl ?_
    rw [hg.out]
    exact ⟨_, rfl, HF.out _ _ _ _ _, HG.out _ _ _ _ _⟩
  · have hg := Lib.hid (hnew.out rfl)
    have K2 := Lib.hid (specTongue_any _ t w1 HT1 hf.out)
    have hs1 := HZ1.lt
    replace HZ1 := Lib.hid HZ1
    clear HX1 HT1 hnew hno z0 z1 z2 z3 z4 e0 e1 e2 e3 e4
    go_wp2_with (go_at_call 113; refine K2.out.mono ?_; rintro e w2 ⟨v2, rfl, o2, b2⟩; obtain ⟨X1, k1, X2, k2, X3, k3, rfl⟩ := o2.shape; refine Hid.out ?_)
    have HZ2 := HZ1.out.below b2 HZ1.out.lt
    obtain ⟨⟨z0, z1, z2, z3, z4⟩, ⟨e0, e1, e2, e3, e4⟩⟩ := blk5 HZ2
    have hB2 := hB1.out.trans (b2.mono hB1.out.size)
    have HM : MDk w2 w.heap.size (.agg #[.slice X1 t.us.length k1, .slice X2 t.bs.length k2, .slice X3 t.ns.length k3, .int .i64 n, .slice none 0 0]) ⟨t, n, []⟩ := ⟨_, _, _, _, rfl, o2.mono hB1.out.size, OwnI.tail (owns_none _ _ _)⟩
    have HF := fun u0 u1 u2 u3 u4 => own_md5 (u0 := u0) (u1 := u1) (u2 := u2) (u3 := u3) (u4 := u4) HM HZ2
    have HG := fun u0 u1 u2 u3 u4 => below_dk5 (u0 := u0) (u1 := u1) (u2 := u2) (u3 := u3) (u4 := u4) (g := w.heap.size + 1) hB2 (by omega)
    replace HF := Lib.hid HF
    replace HG := Lib.hid HG
    clear x0 x1 x2 o2 b2 HM HZ2 HZ1 hB2 hB1 K2
    refine Lib.hid ?_
    go_wp2
    refine bodyPost_ret (v := .tuple #[.agg #[.slice X1 t.us.length k1, .slice X2 t.bs.length k2, .slice X3 t.ns.length k3, .int .i64 n, .slice none 0 0], .bool true]) (by simp [results, Tryz.results96, go_sem, z0, z1, z2, z3, z4]) rfl ?_
    rw [hg.out]
    exact ⟨_, rfl, HF.out _ _ _ _ _, HG.out _ _ _ _ _⟩

set_option maxRecDepth 100000 in
set_option maxHeartbeats 4000000 in
theorem specMade_any (v : Value) (d : Dk) (a : Dd) (w : World) (h : Dsk w v d) (hf : d.Fine) (hnow : 1 ≤ d.now ∧ d.now ≤ 99999) :
    Calls Tryz.prog 114 #[v, .agg #[.int .i64 a.kind, .int .i64 a.n]] w fun e w' => e = .returned (.int .i64 (madeOf d a)) ∧ Below w.heap.size w w' := by
  obtain ⟨A1, c1, A2, c2, A3, c3, A5, c5, rfl, h1, h2, h3, h5⟩ := h.ex
  obtain ⟨kd, n⟩ := a
  dsimp only
  have hB := ((Below.refl w.heap.size w).alloc (Nat.le_refl _) (.cells #[.slice A1 d.t.us.length c1, .slice A2 d.t.bs.length c2, .slice A3 d.t.ns.length c3, .int .i64 d.now, .slice A5 d.past.length c5] 33)).alloc (by simp) (.cells #[.int .i64 kd, .int .i64 n] 41)
  have HX := (Blk.new w 33 #[.slice A1 d.t.us.length c1, .slice A2 d.t.bs.length c2, .slice A3 d.t.ns.length c3, .int .i64 d.now, .slice A5 d.past.length c5]).alloc (.cells #[.int .i64 kd, .int .i64 n] 41)
  have HY : Blk ((w.alloc (.cells #[.slice A1 d.t.us.length c1, .slice A2 d.t.bs.length c2, .slice A3 d.t.ns.length c3, .int .i64 d.now, .slice A5 d.past.length c5] 33)).alloc (.cells #[.int .i64 kd, .int .i64 n] 41)) (w.heap.size + 1) 41 #[.int .i64 kd, .int .i64 n] := blk_new_at _ (by simp)
  have HT : Tng ((w.alloc (.cells #[.slice A1 d.t.us.length c1, .slice A2 d.t.bs.length c2, .slice A3 d.t.ns.length c3, .int .i64 d.now, .slice A5 d.past.length c5] 33)).alloc (.cells #[.int .i64 kd, .int .i64 n] 41)) (.agg #[.slice A1 d.t.us.length c1, .slice A2 d.t.bs.length c2, .slice A3 d.t.ns.length c3]) d.t := ⟨A1, c1, A2, c2, A3, c3, rfl, h1.below hB (Nat.le_refl _), h2.below hB (Nat.le_refl _), h3.below hB (Nat.le_refl _)⟩
  have K := Lib.hid (specLettersOf_any _ d.t d.now _ HT hf.t (by omega))
  have hw1 : 1 ≤ n ∧ n ≤ 99999 → IntKind.i64.wrap (d.now + n) = d.now + n := fun h => IntWalk.i64_in _ (by omega)
  have hw2 : 1 ≤ n ∧ n ≤ 99999 → IntKind.i64.wrap (d.now - n) = d.now - n := fun h => IntWalk.i64_in _ (by omega)
  have KI := Lib.hid (fun W => in_any n 1 99999 W)
  have HM : Hid (∀ m, m = madeOf d ⟨kd, n⟩ → Ending.returned (.int .i64 m) = .returned (.int .i64 (madeOf d ⟨kd, n⟩))) := fun m h => by rw [h]
  have M1 : Hid (kd = 3 ∧ n = 0 → madeOf d ⟨kd, n⟩ = lettersOf d.t d.now) := fun h => if_pos h
  have M2 : Hid (¬ (kd = 3 ∧ n = 0) → ¬ (1 ≤ n ∧ n ≤ 99999) → madeOf d ⟨kd, n⟩ = 0) := fun h1 h2 => (if_neg h1).trans (if_neg h2)
  have M3 : Hid (¬ (kd = 3 ∧ n = 0) → 1 ≤ n ∧ n ≤ 99999 → madeOf d ⟨kd, n⟩ = if kd = 0 then n else if kd = 1 then d.now + n else if kd = 2 then d.now - n else 0) := fun h1 h2 => (if_neg h1).trans (if_pos h2)
  generalize madeOf d ⟨kd, n⟩ = mp at *
  replace hB := Lib.hid hB
  replace HX := Lib.hid HX
  replace HY := Lib.hid HY
  clear h h1 h2 h3 h5 hf HT
  go_enter Tryz.func114, Tryz.ntmps114
  go_upto_region 1 with (fail)
  generalize (w.alloc (.cells #[.slice A1 d.t.us.length c1, .slice A2 d.t.bs.length c2, .slice A3 d.t.ns.length c3, .int .i64 d.now, .slice A5 d.past.length c5] 33)).alloc (.cells #[.int .i64 kd, .int .i64 n] 41) = W at *
  obtain ⟨x0, x1, x2, x3, x4⟩ := (blk5 HX.out).1
  have y0 : W.cell? ⟨w.heap.size + 1, 0, none⟩ = some (.int .i64 kd) := HY.out.cell 0
  have y1 : W.cell? ⟨w.heap.size + 1, 1, none⟩ = some (.int .i64 n) := HY.out.cell 1
  by_cases hk : kd = 3 ∧ n = 0
  · obtain ⟨rfl, rfl⟩ := hk
    have hm := M1.out ⟨rfl, rfl⟩
    replace hm := Lib.hid hm
    clear M1 M2 M3 KI
    generalize lettersOf d.t d.now = lt at *
    go_wp2_with (fail)
    refine K.out.mono ?_
    rintro e w1 ⟨rfl, b1⟩
    have hE := Lib.hid (hB.out.trans (b1.mono hB.out.size))
    clear b1 x0 x1 x2 x3 x4 y0 y1 K
    go_wp2
    go_ret
    exact ⟨HM.out _ hm.out.symm, hE.out⟩
  · have hk3 : kd = 3 → ¬ n = 0 := fun e e2 => hk ⟨e, e2⟩
    by_cases hn : 1 ≤ n ∧ n ≤ 99999
    · obtain ⟨n1, n2⟩ := hn
      have hm := Lib.hid (M3.out hk ⟨n1, n2⟩)
      have KI2 := KI.out
      rw [decide_eq_true (show (1 : Int) ≤ n ∧ n ≤ 99999 from ⟨n1, n2⟩)] at KI2
      replace KI2 := Lib.hid KI2
      replace hw1 := hw1 ⟨n1, n2⟩
      replace hw2 := hw2 ⟨n1, n2⟩
      clear M1 M2 M3 K KI
      by_cases k0 : kd = 0
      · subst k0
        have hm' := Lib.hid (hm.out.trans (if_pos rfl))
        clear hm
        go_wp2_with (go_at_call 101; refine (KI2.out _).mono ?_; rintro e w' ⟨rfl, rfl⟩)
        all_goals
          go_ret
          exact ⟨HM.out _ hm'.out.symm, hB.out⟩
      · by_cases k1 : kd = 1
        · subst k1
          have hm' := Lib.hid (hm.out.trans ((if_neg (by decide)).trans (if_pos rfl)))
          clear hm
          go_wp2_with (go_at_call 101; refine (KI2.out _).mono ?_; rintro e w' ⟨rfl, rfl⟩)
          all_goals
            go_ret
            exact ⟨HM.out _ hm'.out.symm, hB.out⟩
        · by_cases k2 : kd = 2
          · subst k2
            have hm' := Lib.hid (hm.out.trans ((if_neg (by decide)).trans ((if_neg (by decide)).trans (if_pos rfl))))
            clear hm
            go_wp2_with (go_at_call 101; refine (KI2.out _).mono ?_; rintro e w' ⟨rfl, rfl⟩)
            all_goals
              go_ret
              exact ⟨HM.out _ hm'.out.symm, hB.out⟩
          · have hm' := Lib.hid (hm.out.trans ((if_neg k0).trans ((if_neg k1).trans (if_neg k2))))
            have q0 : (kd == 0) = false := by simpa using k0
            have q1 : (kd == 1) = false := by simpa using k1
            have q2 : (kd == 2) = false := by simpa using k2
            clear hm
            go_wp2
            all_goals
              go_ret
              exact ⟨HM.out _ hm'.out.symm, hB.out⟩
    · have hm := Lib.hid (M2.out hk hn)
      have KI2 := KI.out
      rw [decide_eq_false hn] at KI2
      replace KI2 := Lib.hid KI2
      clear M1 M2 M3 K hw1 hw2 KI
      by_cases k0 : kd = 0
      · subst k0
        go_wp2_with (go_at_call 101; refine (KI2.out _).mono ?_; rintro e w' ⟨rfl, rfl⟩)
        all_goals
          go_ret
          exact ⟨HM.out _ hm.out.symm, hB.out⟩
      · by_cases k1 : kd = 1
        · subst k1
          go_wp2_with (go_at_call 101; refine (KI2.out _).mono ?_; rintro e w' ⟨rfl, rfl⟩)
          all_goals
            go_ret
            exact ⟨HM.out _ hm.out.symm, hB.out⟩
        · by_cases k2 : kd = 2
          · subst k2
            go_wp2_with (go_at_call 101; refine (KI2.out _).mono ?_; rintro e w' ⟨rfl, rfl⟩)
            all_goals
              go_ret
              exact ⟨HM.out _ hm.out.symm, hB.out⟩
          · have q0 : (kd == 0) = false := by simpa using k0
            have q1 : (kd == 1) = false := by simpa using k1
            have q2 : (kd == 2) = false := by simpa using k2
            go_wp2
            all_goals
              go_ret
              exact ⟨HM.out _ hm.out.symm, hB.out⟩
end Go.Proofs.YtmhgpbfogdoaeaaGreatDoor

/- Jd -/
namespace Go.Proofs.YtmhgpbfogdoaeaaGreatDoor
open Go.RowKit

theorem own_offM {a b : World} {B n : Nat} {e : TypeId} {u : Value} {xs : List Value} {row : Option Nat} (h : a.ownsRow B e 1 u n xs) (hg : a.grownBy b row) (hne : ∀ k, u.ownBlock = some k → row ≠ some k) : b.ownsRow B e 1 u n xs := by
  refine h.kept hg ?_
  cases hv : u.ownBlock with
  | none => exact .inl rfl
  | some k => exact .inr fun e => hne k hv e.symm
theorem setI {w : World} {B g i : Nat} {v u : Value} {cs : Array Value} {xs : List Int} (h : OwnI w B v xs) (hb : Blk w g 33 cs) : OwnI (w.setCell ⟨g, i, none⟩ u) B v xs := own_set h (own_blk_ne h hb (by decide))
/-- A full past without its first number. -/
theorem tail_one {w : World} {B g c : Nat} {past : List Int} {now : Int} (h8 : past.length = 8) (hc : 1 ≤ c) (h : OwnI w B (.slice (some ⟨g, 0, none⟩) (past.length + 1) c) (past ++ [now])) : TailI w B (.slice (some ⟨g, 1, none⟩) past.length (c - 1)) ((past ++ [now]).drop (past.length + 1 - 8)) := by
  have hxl : ((past ++ [now]).drop (past.length + 1 - 8)).length = past.length := by rw [List.length_drop, List.length_append, List.length_singleton]; omega
  obtain ⟨z, r, er⟩ : ∃ z r, past = z :: r := by
    cases hp : past with
    | nil => rw [hp] at h8; simp at h8
    | cons z r => exact ⟨z, r, rfl⟩
  have hd1 : (past ++ [now]).drop (past.length + 1 - 8) = r ++ [now] := by rw [h8, er]; rfl
  have hc1 : c - 1 + 1 = c := by omega
  refine ⟨.inr ⟨z, g, c - 1, ?_, by rw [hxl]⟩⟩
  have hz : (z :: (past ++ [now]).drop (past.length + 1 - 8)) = past ++ [now] := by rw [hd1, er]; rfl
  rw [hz, hxl, hc1]
  exact h
theorem dsk_tng {w : World} {d : Dk} {A1 A2 A3 A5 : Option Addr} {c1 c2 c3 c5 : Nat} (h : Dsk w (.agg #[.slice A1 d.t.us.length c1, .slice A2 d.t.bs.length c2, .slice A3 d.t.ns.length c3, .int .i64 d.now, .slice A5 d.past.length c5]) d) : Tng w (.agg #[.slice A1 d.t.us.length c1, .slice A2 d.t.bs.length c2, .slice A3 d.t.ns.length c3]) d.t := by
  obtain ⟨B1, e1, B2, e2, B3, e3, B5, e5, e, h1, h2, h3, -⟩ := h.ex
  cases e
  exact ⟨_, _, _, _, _, _, rfl, h1, h2, h3⟩
theorem LDk.shape {w : World} {B : Nat} {v : Value} {d : Dk} (h : LDk w B v d) : ∃ A1 c1 A2 c2 A3 c3 A5 c5, v = .agg #[.slice A1 d.t.us.length c1, .slice A2 d.t.bs.length c2, .slice A3 d.t.ns.length c3, .int .i64 d.now, .slice A5 d.past.length c5] := by
  obtain ⟨A1, c1, A2, c2, A3, c3, A5, c5, e, -⟩ := h.dsk.ex
  exact ⟨A1, c1, A2, c2, A3, c3, A5, c5, e⟩

set_option maxRecDepth 100000 in
set_option maxHeartbeats 8000000 in
theorem specDeskDo_any (v : Value) (d : Dk) (a : Dd) (w : World) (h : Dsk w v d) (hf : d.Fine) :
    Calls Tryz.prog 63 #[v, .agg #[.int .i64 a.kind, .int .i64 a.n]] w (RetMW w d.past.length (dkDo d a).1 (dkDo d a).2) := by
  obtain ⟨A1, c1, A2, c2, A3, c3, A5, c5, rfl, -⟩ := h.ex
  obtain ⟨kd, n⟩ := a
  dsimp only
  have hB := (((Below.refl w.heap.size w).alloc (Nat.le_refl _) (.cells #[.slice A1 d.t.us.length c1, .slice A2 d.t.bs.length c2, .slice A3 d.t.ns.length c3, .int .i64 d.now, .slice A5 d.past.length c5] 33)).alloc (by simp) (.cells #[.int .i64 kd, .int .i64 n] 41)).alloc (by simp; omega) (.cells #[.slice none 0 0, .slice none 0 0, .slice none 0 0, .int .i64 0, .slice none 0 0] 33)
  have HX := ((Blk.new w 33 #[.slice A1 d.t.us.length c1, .slice A2 d.t.bs.length c2, .slice A3 d.t.ns.length c3, .int .i64 d.now, .slice A5 d.past.length c5]).alloc (.cells #[.int .i64 kd, .int .i64 n] 41)).alloc (.cells #[.slice none 0 0, .slice none 0 0, .slice none 0 0, .int .i64 0, .slice none 0 0] 33)
  have HY : Blk (((w.alloc (.cells #[.slice A1 d.t.us.length c1, .slice A2 d.t.bs.length c2, .slice A3 d.t.ns.length c3, .int .i64 d.now, .slice A5 d.past.length c5] 33)).alloc (.cells #[.int .i64 kd, .int .i64 n] 41)).alloc (.cells #[.slice none 0 0, .slice none 0 0, .slice none 0 0, .int .i64 0, .slice none 0 0] 33)) (w.heap.size + 1) 41 #[.int .i64 kd, .int .i64 n] := (blk_new_at _ (by simp)).alloc _
  have HZ : Blk (((w.alloc (.cells #[.slice A1 d.t.us.length c1, .slice A2 d.t.bs.length c2, .slice A3 d.t.ns.length c3, .int .i64 d.now, .slice A5 d.past.length c5] 33)).alloc (.cells #[.int .i64 kd, .int .i64 n] 41)).alloc (.cells #[.slice none 0 0, .slice none 0 0, .slice none 0 0, .int .i64 0, .slice none 0 0] 33)) (w.heap.size + 2) 33 #[.slice none 0 0, .slice none 0 0, .slice none 0 0, .int .i64 0, .slice none 0 0] := blk_new_at _ (by simp)
  have HD := h.below hB (Nat.le_refl _)
  have K1 := Lib.hid (specDeskOk_any _ d _ HD hf)
  have hno := Lib.hid (do_no (d := d) (a := ⟨kd, n⟩))
  have hback := Lib.hid (do_back (d := d) (a := ⟨kd, n⟩))
  have hput := Lib.hid (do_put (d := d) (a := ⟨kd, n⟩))
  have hdk := Lib.hid ((dkOk_iff d).1)
  have hff := Lib.hid hf
  generalize hnb : dkOk d = nb at *
  replace hnb := Lib.hid hnb
  replace hB := Lib.hid hB
  replace HX := Lib.hid HX
  replace HY := Lib.hid HY
  replace HZ := Lib.hid HZ
  replace HD := Lib.hid HD
  clear h hf
  go_enter Tryz.func63, Tryz.ntmps63
  go_upto_region 1 with (fail)
  generalize ((w.alloc (.cells #[.slice A1 d.t.us.length c1, .slice A2 d.t.bs.length c2, .slice A3 d.t.ns.length c3, .int .i64 d.now, .slice A5 d.past.length c5] 33)).alloc (.cells #[.int .i64 kd, .int .i64 n] 41)).alloc (.cells #[.slice none 0 0, .slice none 0 0, .slice none 0 0, .int .i64 0, .slice none 0 0] 33) = W at *
  obtain ⟨⟨x0, x1, x2, x3, x4⟩, -⟩ := blk5 HX.out
  go_wp2_with (fail)
  refine K1.out.mono ?_
  rintro e w1 ⟨rfl, b1⟩
  have hB1 := Lib.hid (hB.out.trans (b1.mono hB.out.size))
  have HX1 := Lib.hid (HX.out.below b1 HX.out.lt)
  have HY1 := Lib.hid (HY.out.below b1 HY.out.lt)
  have HZ1 := Lib.hid (HZ.out.below b1 HZ.out.lt)
  have HD1 := Lib.hid (HD.out.below b1 (Nat.le_refl _))
  clear x0 x1 x2 x3 x4 K1 b1 HX HY HZ HD hB
  cases nb
  · have hg := Lib.hid (hno.out (by simp))
    obtain ⟨⟨z0, z1, z2, z3, z4⟩, ⟨e0, e1, e2, e3, e4⟩⟩ := blk5 HZ1.out
    have HF := fun u0 u1 u2 u3 u4 => own_md5 (u0 := u0) (u1 := u1) (u2 := u2) (u3 := u3) (u4 := u4) (own_mdNo w1 w.heap.size) HZ1.out
    have HW := Lib.hid (fun u0 u1 u2 u3 u4 => own_wd5 (u0 := u0) (u1 := u1) (u2 := u2) (u3 := u3) (u4 := u4) (own_wdNo w1 w.heap.size) HZ1.out)
    have HG := fun u0 u1 u2 u3 u4 => below_dk5 (u0 := u0) (u1 := u1) (u2 := u2) (u3 := u3) (u4 := u4) (g := w.heap.size + 2) hB1.out (by omega)
    replace HF := Lib.hid HF
    replace HG := Lib.hid HG
    clear HX1 HY1 HZ1 HD1 hno hback hput hdk
    go_wp2
    refine bodyPost_ret (v := .tuple #[.agg #[.slice none 0 0, .slice none 0 0, .slice none 0 0, .int .i64 0, .slice none 0 0], .bool false]) (by simp [results, Tryz.results63, go_sem, z0, z1, z2, z3, z4]) rfl ?_
    rw [hg.out]
    exact ⟨_, rfl, HF.out _ _ _ _ _, (fun _ => HW.out _ _ _ _ _), HG.out _ _ _ _ _⟩
  · obtain ⟨d1, d2, d3⟩ := hdk.out (by simp)
    have hnow := named_bd d1
    have K2 := Lib.hid (specCopy_any _ d w1 HD1.out hff.out)
    obtain ⟨⟨x0, x1, x2, x3, x4⟩, ⟨f0, f1, f2, f3, f4⟩⟩ := blk5 HX1.out
    have hs1 := HZ1.out.lt
    clear d1 d2 hno hdk
    go_wp2_with (go_at_call 62; refine K2.out.mono ?_; rintro e w2 ⟨v2, rfl, o2, b2⟩; obtain ⟨X1, k1, X2, k2, X3, k3, X5, k5, rfl⟩ := o2.shape; refine Hid.out ?_)
    have hAl := (Below.refl w2.heap.size w2).alloc (Nat.le_refl _) (.cells #[.slice X1 d.t.us.length k1, .slice X2 d.t.bs.length k2, .slice X3 d.t.ns.length k3, .int .i64 d.now, .slice X5 d.past.length k5] 33)
    have b2' := b2.trans (hAl.mono b2.size)
    have XA := Lib.hid (HX1.out.below b2' HX1.out.lt)
    have YA := Lib.hid (HY1.out.below b2' HY1.out.lt)
    have ZA := Lib.hid (HZ1.out.below b2' HZ1.out.lt)
    have BA := Lib.hid (hB1.out.trans (b2'.mono hB1.out.size))
    have HDV := Lib.hid (HD1.out.below b2' (Nat.le_refl _))
    have OA := Lib.hid (o2.below hAl (Nat.le_refl _))
    have QA := Lib.hid (Blk.new w2 33 #[.slice X1 d.t.us.length k1, .slice X2 d.t.bs.length k2, .slice X3 d.t.ns.length k3, .int .i64 d.now, .slice X5 d.past.length k5])
    have hs2 := b2.size
    have hsV : w2.heap.size < (w2.alloc (.cells #[.slice X1 d.t.us.length k1, .slice X2 d.t.bs.length k2, .slice X3 d.t.ns.length k3, .int .i64 d.now, .slice X5 d.past.length k5] 33)).heap.size := by simp
    clear hAl b2 b2' o2 K2 HX1 HY1 HZ1 HD1 hB1 x0 x1 x2 x3 x4 f0 f1 f2 f3 f4
    refine Lib.hid ?_
    go_upto_region 4 with (fail)
    generalize w2.alloc (.cells #[.slice X1 d.t.us.length k1, .slice X2 d.t.bs.length k2, .slice X3 d.t.ns.length k3, .int .i64 d.now, .slice X5 d.past.length k5] 33) = V at *
    generalize w2.heap.size = q at *
    obtain ⟨⟨x0, x1, x2, x3, x4⟩, -⟩ := blk5 XA.out
    have yc0 : V.cell? ⟨w.heap.size + 1, 0, none⟩ = some (.int .i64 kd) := YA.out.cell 0
    have yc1 : V.cell? ⟨w.heap.size + 1, 1, none⟩ = some (.int .i64 n) := YA.out.cell 1
    have HTV := Lib.hid (dsk_tng HDV.out)
    by_cases hk : kd = 4 ∧ n = 0
    · obtain ⟨rfl, rfl⟩ := hk
      by_cases h0 : 0 < d.past.length
      · have hg := Lib.hid (hback.out (by simp) (by simp))
        have hbd : Hid (backD d = (⟨d.t, d.past.getD (d.past.length - 1) 0, d.past.take (d.past.length - 1)⟩, true)) := by unfold backD; exact if_pos h0
        obtain ⟨w9a, w9b, w9c, w9d, ee, ht, h5, apb⟩ := OA.out.ex
        cases ee
        obtain ⟨A, c, ee, hi⟩ := h5.ints
        simp only [Value.slice.injEq] at ee
        obtain ⟨rfl, -, rfl⟩ := ee
        obtain ⟨b, o, rfl, hbo, hc⟩ := hi.at_ h0
        have ck := hc (d.past.length - 1) (by omega)
        replace apb := Lib.hid apb
        have hcap := hi.le
        have HTk := Lib.hid (h5.take (d.past.length - 1) (by omega))
        obtain ⟨m, hm⟩ : ∃ m, d.past.length = m + 1 := ⟨d.past.length - 1, by omega⟩
        have hm1 : d.past.length - 1 = m := by omega
        rw [hm1] at ck HTk hbd
        generalize d.past.getD m 0 = x at *
        have hg2 := Lib.hid (hg.out.trans hbd.out)
        have i1 : ((d.past.length : Int) - 1) = (m : Int) := by omega
        have i2 : IntKind.i64.wrap (m : Int) = (m : Int) := IntWalk.i64_in _ (by omega)
        have i4 : (0 : Int) ≤ (m : Int) := by omega
        have i5 : (m : Int) < (d.past.length : Int) := by omega
        have i6 : (m : Int) ≤ (k5 : Int) := by omega
        have i7 : (0 : Int) < (d.past.length : Int) := by omega
        have i8 : decide ((0 : Int) < (d.past.length : Int)) = true := decide_eq_true i7
        have hql := QA.out.lt
        have QB := (QA.out.set_ 3 (.int .i64 x)).set_ 4 (.slice (some ⟨b, o, none⟩) m k5)
        simp at QB
        have ZB := (ZA.out.far (p := ⟨q, 3, none⟩) (by simp; omega) (.int .i64 x)).far (p := ⟨q, 4, none⟩) (by simp; omega) (.slice (some ⟨b, o, none⟩) m k5)
        have TB := (ht.setM (i := 3) (u := .int .i64 x) QA.out).setM (i := 4) (u := .slice (some ⟨b, o, none⟩) m k5) (QA.out.set_ 3 (.int .i64 x))
        have PB := setI (i := 4) (u := .slice (some ⟨b, o, none⟩) m k5) (setI (i := 3) (u := .int .i64 x) HTk.out QA.out) (QA.out.set_ 3 (.int .i64 x))
        have BB := (BA.out.setCell (p := ⟨q, 3, none⟩) (by simp; omega) (.int .i64 x)).setCell (p := ⟨q, 4, none⟩) (by simp; omega) (.slice (some ⟨b, o, none⟩) m k5)
        replace QB := Lib.hid QB
        replace ZB := Lib.hid ZB
        replace TB := Lib.hid TB
        replace PB := Lib.hid PB
        replace BB := Lib.hid BB
        obtain ⟨⟨y0, y1, y2, y3, y4⟩, ⟨f0, f1, f2, f3, f4⟩⟩ := blk5 QA.out
        clear hi hc ht h5 hback hput hbd hg
        go_upto_region 8 with (fail)
        generalize (V.setCell ⟨q, 3, none⟩ (.int .i64 x)).setCell ⟨q, 4, none⟩ (.slice (some ⟨b, o, none⟩) m k5) = V9 at *
        clear x0 x1 x2 x3 x4 y0 y1 y2 y3 y4 f0 f1 f2 f3 f4 ck yc0 yc1
        obtain ⟨⟨x0, x1, x2, x3, x4⟩, -⟩ := blk5 QB.out
        obtain ⟨⟨z0, z1, z2, z3, z4⟩, ⟨e0, e1, e2, e3, e4⟩⟩ := blk5 ZB.out
        have MD : MDk V9 w1.heap.size (.agg #[.slice X1 d.t.us.length k1, .slice X2 d.t.bs.length k2, .slice X3 d.t.ns.length k3, .int .i64 x, .slice (some ⟨b, o, none⟩) m k5]) ⟨d.t, x, d.past.take m⟩ := ⟨_, _, _, _, rfl, TB.out, OwnI.tail PB.out⟩
        have WD : WDk V9 w1.heap.size (.agg #[.slice X1 d.t.us.length k1, .slice X2 d.t.bs.length k2, .slice X3 d.t.ns.length k3, .int .i64 x, .slice (some ⟨b, o, none⟩) m k5]) ⟨d.t, x, d.past.take m⟩ := ⟨_, _, _, _, rfl, TB.out, PB.out, apb.out⟩
        have hg := hg2
        clear hg2
        have HW := fun u0 u1 u2 u3 u4 => (own_wd5 (u0 := u0) (u1 := u1) (u2 := u2) (u3 := u3) (u4 := u4) WD ZB.out).mono (B' := w.heap.size) (by omega)
        replace HW := Lib.hid HW
        have HF := fun u0 u1 u2 u3 u4 => (own_md5 (u0 := u0) (u1 := u1) (u2 := u2) (u3 := u3) (u4 := u4) MD ZB.out).mono (B' := w.heap.size) (by omega)
        have HG := fun u0 u1 u2 u3 u4 => below_dk5 (u0 := u0) (u1 := u1) (u2 := u2) (u3 := u3) (u4 := u4) (g := w.heap.size + 2) BB.out (by omega)
        replace HF := Lib.hid HF
        replace HG := Lib.hid HG
        clear MD WD QB ZB TB PB BB XA YA ZA QA OA BA HDV HTV HTk
        go_wp2
        refine bodyPost_ret (v := .tuple #[.agg #[.slice X1 d.t.us.length k1, .slice X2 d.t.bs.length k2, .slice X3 d.t.ns.length k3, .int .i64 x, .slice (some ⟨b, o, none⟩) m k5], .bool true]) (by simp [results, Tryz.results63, go_sem, z0, z1, z2, z3, z4]) rfl ?_
        rw [hg.out]
        exact ⟨_, rfl, HF.out _ _ _ _ _, (fun _ => HW.out _ _ _ _ _), HG.out _ _ _ _ _⟩
      · have hn0 : d.past.length = 0 := by omega
        have i8 : decide ((0 : Int) < (d.past.length : Int)) = false := decide_eq_false (by omega)
        have i7 : ¬ ((0 : Int) < (d.past.length : Int)) := by omega
        have hgen : Hid (dkDo d ⟨4, 0⟩ = putD d (madeOf d ⟨4, 0⟩)) := (hback.out (by simp) (by simp)).trans (back_put d h0)
        replace hn0 := Lib.hid hn0
        clear hback hput
        have hz0 := Lib.hid (show namedB d.t (madeOf d ⟨4, 0⟩) = false from named_off (by have e : madeOf d ⟨4, 0⟩ = 0 := (by unfold madeOf; rw [if_neg (by dsimp only; omega), if_neg (by dsimp only; omega)]); rw [e]; omega))
        have hdo := Lib.hid (hgen.out : dkDo d ⟨4, 0⟩ = putD d (madeOf d ⟨4, 0⟩))
        have K3 := Lib.hid (specMade_any _ d ⟨4, 0⟩ V HDV.out hff.out hnow)
        have hbd := made_bd d ⟨4, 0⟩ hnb.out
        generalize madeOf d ⟨4, 0⟩ = m at *
        have hno := Lib.hid (put_no (d := d) (m := m))
        have hyes := Lib.hid (put_yes (d := d) (m := m))
        clear hgen
        go_wp2_with (fail)
        refine K3.out.mono ?_
        rintro e V1 ⟨rfl, b1⟩
        have XA1 := XA.out.below b1 XA.out.lt
        have ZA1 := ZA.out.below b1 ZA.out.lt
        have QA1 := QA.out.below b1 QA.out.lt
        have OA1 := OA.out.below b1 (Nat.le_refl _)
        have BA1 := BA.out.trans (b1.mono BA.out.size)
        have HT1 := HTV.out.below b1 (Nat.le_refl _)
        have hz1 := b1.size
        have hql := QA.out.lt
        have K5 := Lib.hid (specNameOf_any _ d.t m V1 HT1 hff.out.t (by omega))
        replace XA1 := Lib.hid XA1
        replace ZA1 := Lib.hid ZA1
        replace QA1 := Lib.hid QA1
        replace OA1 := Lib.hid OA1
        replace BA1 := Lib.hid BA1
        clear b1 x0 x1 x2 x3 x4 yc0 yc1 K3 XA YA ZA QA OA BA HDV HTV HT1
        obtain ⟨⟨x0, x1, x2, x3, x4⟩, -⟩ := blk5 XA1.out
        generalize hmb : namedB d.t m = mb at *
        generalize nameOf d.t m = xs at *
        replace hmb := Lib.hid hmb
        go_wp2_with (fail)
        refine K5.out.mono ?_
        rintro e V2 ⟨v2, rfl, -, b2⟩
        have XA2 := XA1.out.below b2 XA1.out.lt
        have ZA2 := ZA1.out.below b2 ZA1.out.lt
        have QA2 := QA1.out.below b2 QA1.out.lt
        have OA2 := OA1.out.below b2 (Nat.le_refl _)
        have BA2 := BA1.out.trans (b2.mono BA1.out.size)
        have hz2 := b2.size
        replace XA2 := Lib.hid XA2
        replace ZA2 := Lib.hid ZA2
        replace QA2 := Lib.hid QA2
        replace OA2 := Lib.hid OA2
        replace BA2 := Lib.hid BA2
        clear b2 x0 x1 x2 x3 x4 K5 XA1 ZA1 QA1 OA1 BA1
        obtain ⟨⟨x0, x1, x2, x3, x4⟩, -⟩ := blk5 XA2.out
        obtain ⟨⟨y0, y1, y2, y3, y4⟩, ⟨f0, f1, f2, f3, f4⟩⟩ := blk5 QA2.out
        obtain ⟨⟨z0, z1, z2, z3, z4⟩, ⟨e0, e1, e2, e3, e4⟩⟩ := blk5 ZA2.out
        cases mb
        · have hg := Lib.hid (hdo.out.trans (hno.out (fun hh => absurd hh.1 (by simp))))
          have HW := fun u0 u1 u2 u3 u4 => (own_wd5 (u0 := u0) (u1 := u1) (u2 := u2) (u3 := u3) (u4 := u4) OA2.out.whole ZA2.out).mono (B' := w.heap.size) (by omega)
          replace HW := Lib.hid HW
          have HF := fun u0 u1 u2 u3 u4 => (own_md5 (u0 := u0) (u1 := u1) (u2 := u2) (u3 := u3) (u4 := u4) OA2.out.m ZA2.out).mono (B' := w.heap.size) (by omega)
          have HG := fun u0 u1 u2 u3 u4 => below_dk5 (u0 := u0) (u1 := u1) (u2 := u2) (u3 := u3) (u4 := u4) (g := w.heap.size + 2) BA2.out (by omega)
          replace HF := Lib.hid HF
          replace HG := Lib.hid HG
          clear XA2 ZA2 QA2 OA2 BA2 hno hyes
          go_wp2
          refine bodyPost_ret (v := .tuple #[.agg #[.slice X1 d.t.us.length k1, .slice X2 d.t.bs.length k2, .slice X3 d.t.ns.length k3, .int .i64 d.now, .slice X5 d.past.length k5], .bool false]) (by simp [results, Tryz.results63, go_sem, z0, z1, z2, z3, z4]) rfl ?_
          rw [hg.out]
          exact ⟨_, rfl, HF.out _ _ _ _ _, (fun _ => HW.out _ _ _ _ _), HG.out _ _ _ _ _⟩
        · exact absurd hz0.out (by simp)
    · by_cases e4 : kd = 4
      · subst e4
        have hn0 : ¬ n = 0 := fun e => hk ⟨rfl, e⟩
        have hn1 : (n == 0) = false := by simpa using hn0
        have hgen := Lib.hid (hput.out (by simp) hk)
        clear hback hput
        have hdo := Lib.hid (hgen.out : dkDo d ⟨4, n⟩ = putD d (madeOf d ⟨4, n⟩))
        have K3 := Lib.hid (specMade_any _ d ⟨4, n⟩ V HDV.out hff.out hnow)
        have hbd := made_bd d ⟨4, n⟩ hnb.out
        generalize madeOf d ⟨4, n⟩ = m at *
        have hno := Lib.hid (put_no (d := d) (m := m))
        have hyes := Lib.hid (put_yes (d := d) (m := m))
        clear hgen
        go_wp2_with (fail)
        refine K3.out.mono ?_
        rintro e V1 ⟨rfl, b1⟩
        have XA1 := XA.out.below b1 XA.out.lt
        have ZA1 := ZA.out.below b1 ZA.out.lt
        have QA1 := QA.out.below b1 QA.out.lt
        have OA1 := OA.out.below b1 (Nat.le_refl _)
        have BA1 := BA.out.trans (b1.mono BA.out.size)
        have HT1 := HTV.out.below b1 (Nat.le_refl _)
        have hz1 := b1.size
        have hql := QA.out.lt
        have K5 := Lib.hid (specNameOf_any _ d.t m V1 HT1 hff.out.t (by omega))
        replace XA1 := Lib.hid XA1
        replace ZA1 := Lib.hid ZA1
        replace QA1 := Lib.hid QA1
        replace OA1 := Lib.hid OA1
        replace BA1 := Lib.hid BA1
        clear b1 x0 x1 x2 x3 x4 yc0 yc1 K3 XA YA ZA QA OA BA HDV HTV HT1
        obtain ⟨⟨x0, x1, x2, x3, x4⟩, -⟩ := blk5 XA1.out
        generalize hmb : namedB d.t m = mb at *
        generalize nameOf d.t m = xs at *
        replace hmb := Lib.hid hmb
        go_wp2_with (fail)
        refine K5.out.mono ?_
        rintro e V2 ⟨v2, rfl, -, b2⟩
        have XA2 := XA1.out.below b2 XA1.out.lt
        have ZA2 := ZA1.out.below b2 ZA1.out.lt
        have QA2 := QA1.out.below b2 QA1.out.lt
        have OA2 := OA1.out.below b2 (Nat.le_refl _)
        have BA2 := BA1.out.trans (b2.mono BA1.out.size)
        have hz2 := b2.size
        replace XA2 := Lib.hid XA2
        replace ZA2 := Lib.hid ZA2
        replace QA2 := Lib.hid QA2
        replace OA2 := Lib.hid OA2
        replace BA2 := Lib.hid BA2
        clear b2 x0 x1 x2 x3 x4 K5 XA1 ZA1 QA1 OA1 BA1
        obtain ⟨⟨x0, x1, x2, x3, x4⟩, -⟩ := blk5 XA2.out
        obtain ⟨⟨y0, y1, y2, y3, y4⟩, ⟨f0, f1, f2, f3, f4⟩⟩ := blk5 QA2.out
        obtain ⟨⟨z0, z1, z2, z3, z4⟩, ⟨e0, e1, e2, e3, e4⟩⟩ := blk5 ZA2.out
        cases mb
        · have hg := Lib.hid (hdo.out.trans (hno.out (fun hh => absurd hh.1 (by simp))))
          have HW := fun u0 u1 u2 u3 u4 => (own_wd5 (u0 := u0) (u1 := u1) (u2 := u2) (u3 := u3) (u4 := u4) OA2.out.whole ZA2.out).mono (B' := w.heap.size) (by omega)
          replace HW := Lib.hid HW
          have HF := fun u0 u1 u2 u3 u4 => (own_md5 (u0 := u0) (u1 := u1) (u2 := u2) (u3 := u3) (u4 := u4) OA2.out.m ZA2.out).mono (B' := w.heap.size) (by omega)
          have HG := fun u0 u1 u2 u3 u4 => below_dk5 (u0 := u0) (u1 := u1) (u2 := u2) (u3 := u3) (u4 := u4) (g := w.heap.size + 2) BA2.out (by omega)
          replace HF := Lib.hid HF
          replace HG := Lib.hid HG
          clear XA2 ZA2 QA2 OA2 BA2 hno hyes
          go_wp2
          refine bodyPost_ret (v := .tuple #[.agg #[.slice X1 d.t.us.length k1, .slice X2 d.t.bs.length k2, .slice X3 d.t.ns.length k3, .int .i64 d.now, .slice X5 d.past.length k5], .bool false]) (by simp [results, Tryz.results63, go_sem, z0, z1, z2, z3, z4]) rfl ?_
          rw [hg.out]
          exact ⟨_, rfl, HF.out _ _ _ _ _, (fun _ => HW.out _ _ _ _ _), HG.out _ _ _ _ _⟩
        · by_cases hmn : m = d.now
          · have hg := Lib.hid (hdo.out.trans (hno.out (fun hh => hh.2 hmn)))
            have hmq : (m == d.now) = true := by simpa using hmn
            subst hmn
            have HW := fun u0 u1 u2 u3 u4 => (own_wd5 (u0 := u0) (u1 := u1) (u2 := u2) (u3 := u3) (u4 := u4) OA2.out.whole ZA2.out).mono (B' := w.heap.size) (by omega)
            replace HW := Lib.hid HW
            have HF := fun u0 u1 u2 u3 u4 => (own_md5 (u0 := u0) (u1 := u1) (u2 := u2) (u3 := u3) (u4 := u4) OA2.out.m ZA2.out).mono (B' := w.heap.size) (by omega)
            have HG := fun u0 u1 u2 u3 u4 => below_dk5 (u0 := u0) (u1 := u1) (u2 := u2) (u3 := u3) (u4 := u4) (g := w.heap.size + 2) BA2.out (by omega)
            replace HF := Lib.hid HF
            replace HG := Lib.hid HG
            clear XA2 ZA2 QA2 OA2 BA2 hno hyes
            go_wp2
            refine bodyPost_ret (v := .tuple #[.agg #[.slice X1 d.t.us.length k1, .slice X2 d.t.bs.length k2, .slice X3 d.t.ns.length k3, .int .i64 d.now, .slice X5 d.past.length k5], .bool false]) (by simp [results, Tryz.results63, go_sem, z0, z1, z2, z3, z4]) rfl ?_
            rw [hg.out]
            exact ⟨_, rfl, HF.out _ _ _ _ _, (fun _ => HW.out _ _ _ _ _), HG.out _ _ _ _ _⟩
          · have hg := Lib.hid (hdo.out.trans (hyes.out ⟨rfl, hmn⟩))
            have hmq : (m == d.now) = false := by simpa using hmn
            obtain ⟨ii0, hii, hzi0, hzi1, hzi2⟩ := info_parts int_info0
            obtain ⟨w9a, w9b, w9c, w9d, ee, ht, h5, ap⟩ := OA2.out.ex
            cases ee
            have hA := (Below.refl V2.heap.size V2).alloc (Nat.le_refl _) (.cells #[.int .i64 d.now] 3)
            have hL : Blk (V2.alloc (.cells #[.int .i64 d.now] 3)) V2.heap.size 3 #[.int .i64 d.now] := Blk.new _ _ _
            have BA3 := BA2.out.trans (hA.mono BA2.out.size)
            have QA3 := QA2.out.below hA QA2.out.lt
            have ZA3 := ZA2.out.below hA ZA2.out.lt
            have TA3 := ht.below hA (Nat.le_refl _)
            have H52 := h5.below hA (Nat.le_refl _)
            have hsz2 : (V2.alloc (.cells #[.int .i64 d.now] 3)).heap.size = V2.heap.size + 1 := by simp
            replace hL := Lib.hid (Src.one hL rfl)
            replace BA3 := Lib.hid BA3
            replace QA3 := Lib.hid QA3
            replace ZA3 := Lib.hid ZA3
            replace TA3 := Lib.hid TA3
            replace H52 := Lib.hid H52
            replace ap := Lib.hid ap
            have k1' := Lib.hid (show d.past.length + 1 ≤ maxLen by unfold maxLen; omega)
            have k2' := Lib.hid (show (d.past.length + 1) * 8 ≤ 140737488355328 by omega)
            have k3' := Lib.hid (show w1.heap.size ≤ (V2.alloc (.cells #[.int .i64 d.now] 3)).heap.size by rw [hsz2]; omega)
            have hql2 := QA2.out.lt
            replace hsz2 := Lib.hid hsz2
            clear hA ht h5 hno hyes hmb XA2 QA2 ZA2 OA2 BA2 z0 z1 z2 z3 z4 e0 e1 e2 e3 e4
            go_wp2_with (at_builtin; refine wpList_app _ rfl (.tmp 62) (.tmp 65) _ rfl w1.heap.size 3 ii0 _ 8 Tryz.underlying29 hii hzi0 hzi1 hzi2 rfl (.slice X5 d.past.length k5) d.past.length (d.past.map (Value.int .i64)) rfl H52.out (some ⟨V2.heap.size, 0, none⟩) 1 1 _ rfl hL.out k1'.out k2'.out k3'.out ?_; intro v6 w6 ho6 hg6 hat6; refine Hid.out ?_)
            obtain ⟨g6, c6, rfl, hg6B, hg6w⟩ := World.ownsRow.form ho6 (by omega)
            replace QA3 := Lib.hid (QA3.out.grown hg6 (fun e => own_blk_ne H52.out QA3.out (by decide) e.symm))
            replace ZA3 := Lib.hid (ZA3.out.grown hg6 (fun e => own_blk_ne H52.out ZA3.out (by decide) e.symm))
            have hB3 : Below w.heap.size w w6 := below_own BA3.out H52.out hg6 BA3.out.size (by omega)
            have TA4 : LTng w6 w1.heap.size (.agg #[.slice X1 d.t.us.length k1, .slice X2 d.t.bs.length k2, .slice X3 d.t.ns.length k3]) d.t := by
              obtain ⟨y1, y2, y3, ee, o1, o2, o3⟩ := TA3.out.ex
              cases ee
              exact ⟨_, _, _, rfl, own_offM o1 hg6 (fun k hk e => own_type_ne o1 H52.out (by decide) k hk e), own_offM o2 hg6 (fun k hk e => ap.out k hk e), own_offM o3 hg6 (fun k hk e => own_type_ne o3 H52.out (by decide) k hk e)⟩
            have H53 : OwnI w6 w1.heap.size (.slice (some ⟨g6, 0, none⟩) (d.past.length + 1) c6) (d.past ++ [d.now]) := by
              unfold OwnI
              rw [List.length_append, List.length_singleton, List.map_append]
              exact ho6
            have hc6 : d.past.length + 1 ≤ c6 := by
              obtain ⟨A, c, ee, hii2⟩ := H53.ints
              simp only [Value.slice.injEq] at ee
              obtain ⟨rfl, -, rfl⟩ := ee
              have := hii2.le
              rw [List.length_append, List.length_singleton] at this; exact this
            have ap6 : ∀ k, (Value.slice X2 d.t.bs.length k2).ownBlock = some k → some g6 ≠ some k := by
              obtain ⟨y1, y2, y3, ee, o1, o2, o3⟩ := TA3.out.ex
              cases ee
              intro k hk e
              rcases hat6 with h1 | h1
              · exact ap.out k hk (h1.symm.trans e)
              · have h2 := (o2.lt k hk).2
                have h3 : some g6 = some _ := h1
                rw [h3] at e
                cases e
                omega
            replace ap6 := Lib.hid ap6
            have hszw := hB3.size
            have hqw := QA3.out.lt
            replace TA3 := Lib.hid TA4
            replace H53 := Lib.hid H53
            replace BA3 := Lib.hid hB3
            clear TA4 hB3 ho6 hg6 hat6 H52 hL ap x0 x1 x2 x3 x4 y0 y1 y2 y3 y4 f0 f1 f2 f3 f4
            obtain ⟨⟨x0, x1, x2, x3, x4⟩, ⟨f0, f1, f2, f3, f4⟩⟩ := blk5 QA3.out
            have q4 : ((d.past.length + 1 : Nat) : Int) = (d.past.length : Int) + 1 := by omega
            by_cases h8 : d.past.length = 8
            · have g4 : (8 : Int) < (d.past.length : Int) + 1 := by omega
              have g5 : decide ((8 : Int) < (d.past.length : Int) + 1) = true := decide_eq_true g4
              have g6' : (1 : Int) ≤ (c6 : Int) := by omega
              have g7 : (1 : Int) ≤ (d.past.length : Int) + 1 := by omega
              have g8 : (d.past.length : Int) + 1 ≤ (c6 : Int) := by omega
              have g9 : ¬ c6 = 1 := by omega
              have g10 : d.past.length + 1 - 1 = d.past.length := by omega
              replace h8 := Lib.hid h8
              have QB := (((QA3.out.set_ 4 (.slice (some ⟨g6, 0, none⟩) (d.past.length + 1) c6)).set_ 4 (.slice (some ⟨g6, 1, none⟩) d.past.length (c6 - 1))).set_ 3 (.int .i64 m))
              simp at QB
              have ZB := (((ZA3.out.far (p := ⟨q, 4, none⟩) (by dsimp only; omega) (.slice (some ⟨g6, 0, none⟩) (d.past.length + 1) c6)).far (p := ⟨q, 4, none⟩) (by dsimp only; omega) (.slice (some ⟨g6, 1, none⟩) d.past.length (c6 - 1))).far (p := ⟨q, 3, none⟩) (by dsimp only; omega) (.int .i64 m))
              have TB := (((TA3.out.setM (i := 4) (u := .slice (some ⟨g6, 0, none⟩) (d.past.length + 1) c6) QA3.out).setM (i := 4) (u := .slice (some ⟨g6, 1, none⟩) d.past.length (c6 - 1)) (QA3.out.set_ 4 (.slice (some ⟨g6, 0, none⟩) (d.past.length + 1) c6))).setM (i := 3) (u := .int .i64 m) ((QA3.out.set_ 4 (.slice (some ⟨g6, 0, none⟩) (d.past.length + 1) c6)).set_ 4 (.slice (some ⟨g6, 1, none⟩) d.past.length (c6 - 1))))
              have PB := (setI (i := 3) (u := .int .i64 m) (setI (i := 4) (u := .slice (some ⟨g6, 1, none⟩) d.past.length (c6 - 1)) (setI (i := 4) (u := .slice (some ⟨g6, 0, none⟩) (d.past.length + 1) c6) H53.out QA3.out) (QA3.out.set_ 4 (.slice (some ⟨g6, 0, none⟩) (d.past.length + 1) c6))) ((QA3.out.set_ 4 (.slice (some ⟨g6, 0, none⟩) (d.past.length + 1) c6)).set_ 4 (.slice (some ⟨g6, 1, none⟩) d.past.length (c6 - 1))))
              have BB := (((BA3.out.setCell (p := ⟨q, 4, none⟩) (by simp; omega) (.slice (some ⟨g6, 0, none⟩) (d.past.length + 1) c6)).setCell (p := ⟨q, 4, none⟩) (by simp; omega) (.slice (some ⟨g6, 1, none⟩) d.past.length (c6 - 1))).setCell (p := ⟨q, 3, none⟩) (by simp; omega) (.int .i64 m))
              replace QB := Lib.hid QB
              replace ZB := Lib.hid ZB
              replace TB := Lib.hid TB
              replace PB := Lib.hid PB
              replace BB := Lib.hid BB
              clear QA3 ZA3 TA3 H53 BA3
              refine Lib.hid ?_
              go_upto_region 17 with (fail)
              generalize (((w6.setCell ⟨q, 4, none⟩ (.slice (some ⟨g6, 0, none⟩) (d.past.length + 1) c6)).setCell ⟨q, 4, none⟩ (.slice (some ⟨g6, 1, none⟩) d.past.length (c6 - 1))).setCell ⟨q, 3, none⟩ (.int .i64 m)) = V9 at *
              clear x0 x1 x2 x3 x4 f0 f1 f2 f3 f4
              obtain ⟨⟨x0, x1, x2, x3, x4⟩, -⟩ := blk5 QB.out
              obtain ⟨⟨z0, z1, z2, z3, z4⟩, ⟨e0, e1, e2, e3, e4⟩⟩ := blk5 ZB.out
              have hxl : ((d.past ++ [d.now]).drop (d.past.length + 1 - 8)).length = d.past.length := by have h8' := h8.out; rw [List.length_drop, List.length_append, List.length_singleton]; omega
              have PT : TailI V9 w1.heap.size (.slice (some ⟨g6, 1, none⟩) d.past.length (c6 - 1)) ((d.past ++ [d.now]).drop (d.past.length + 1 - 8)) := tail_one h8.out (by omega) PB.out
              have MD : MDk V9 w1.heap.size (.agg #[.slice X1 d.t.us.length k1, .slice X2 d.t.bs.length k2, .slice X3 d.t.ns.length k3, .int .i64 m, .slice (some ⟨g6, 1, none⟩) d.past.length (c6 - 1)]) ⟨d.t, m, (d.past ++ [d.now]).drop (d.past.length + 1 - 8)⟩ := ⟨_, _, _, _, rfl, TB.out, PT⟩
              clear PT hxl
              have HF := fun u0 u1 u2 u3 u4 => (own_md5 (u0 := u0) (u1 := u1) (u2 := u2) (u3 := u3) (u4 := u4) MD ZB.out).mono (B' := w.heap.size) (by omega)
              have HG := fun u0 u1 u2 u3 u4 => below_dk5 (u0 := u0) (u1 := u1) (u2 := u2) (u3 := u3) (u4 := u4) (g := w.heap.size + 2) BB.out (by omega)
              replace HF := Lib.hid HF
              replace HG := Lib.hid HG
              clear MD QB ZB TB PB BB
              go_wp2
              refine bodyPost_ret (v := .tuple #[.agg #[.slice X1 d.t.us.length k1, .slice X2 d.t.bs.length k2, .slice X3 d.t.ns.length k3, .int .i64 m, .slice (some ⟨g6, 1, none⟩) d.past.length (c6 - 1)], .bool true]) (by simp [results, Tryz.results63, go_sem, z0, z1, z2, z3, z4]) rfl ?_
              rw [hg.out]
              exact ⟨_, rfl, HF.out _ _ _ _ _, (fun h7 => absurd h7 (by have := h8.out; omega)), HG.out _ _ _ _ _⟩
            · have g3 : ((d.past.length : Int) + 1 ≤ 8) := by omega
              have g4 : ¬ ((8 : Int) < (d.past.length : Int) + 1) := by omega
              have g5 : decide ((8 : Int) < (d.past.length : Int) + 1) = false := decide_eq_false g4
              have QB := ((QA3.out.set_ 4 (.slice (some ⟨g6, 0, none⟩) (d.past.length + 1) c6)).set_ 3 (.int .i64 m))
              simp at QB
              have ZB := ((ZA3.out.far (p := ⟨q, 4, none⟩) (by dsimp only; omega) (.slice (some ⟨g6, 0, none⟩) (d.past.length + 1) c6)).far (p := ⟨q, 3, none⟩) (by dsimp only; omega) (.int .i64 m))
              have TB := ((TA3.out.setM (i := 4) (u := .slice (some ⟨g6, 0, none⟩) (d.past.length + 1) c6) QA3.out).setM (i := 3) (u := .int .i64 m) (QA3.out.set_ 4 (.slice (some ⟨g6, 0, none⟩) (d.past.length + 1) c6)))
              have PB := (setI (i := 3) (u := .int .i64 m) (setI (i := 4) (u := .slice (some ⟨g6, 0, none⟩) (d.past.length + 1) c6) H53.out QA3.out) (QA3.out.set_ 4 (.slice (some ⟨g6, 0, none⟩) (d.past.length + 1) c6)))
              have BB := ((BA3.out.setCell (p := ⟨q, 4, none⟩) (by simp; omega) (.slice (some ⟨g6, 0, none⟩) (d.past.length + 1) c6)).setCell (p := ⟨q, 3, none⟩) (by simp; omega) (.int .i64 m))
              replace QB := Lib.hid QB
              replace ZB := Lib.hid ZB
              replace TB := Lib.hid TB
              replace PB := Lib.hid PB
              replace BB := Lib.hid BB
              clear QA3 ZA3 TA3 H53 BA3
              refine Lib.hid ?_
              go_upto_region 17 with (fail)
              generalize ((w6.setCell ⟨q, 4, none⟩ (.slice (some ⟨g6, 0, none⟩) (d.past.length + 1) c6)).setCell ⟨q, 3, none⟩ (.int .i64 m)) = V9 at *
              clear x0 x1 x2 x3 x4 f0 f1 f2 f3 f4
              obtain ⟨⟨x0, x1, x2, x3, x4⟩, -⟩ := blk5 QB.out
              obtain ⟨⟨z0, z1, z2, z3, z4⟩, ⟨e0, e1, e2, e3, e4⟩⟩ := blk5 ZB.out
              have hxd : (d.past ++ [d.now]).drop (d.past.length + 1 - 8) = d.past ++ [d.now] := by rw [show d.past.length + 1 - 8 = 0 by omega]; rfl
              have MD : MDk V9 w1.heap.size (.agg #[.slice X1 d.t.us.length k1, .slice X2 d.t.bs.length k2, .slice X3 d.t.ns.length k3, .int .i64 m, .slice (some ⟨g6, 0, none⟩) (d.past.length + 1) c6]) ⟨d.t, m, (d.past ++ [d.now]).drop (d.past.length + 1 - 8)⟩ := ⟨_, _, _, _, rfl, TB.out, by show TailI _ _ _ (List.drop _ _); rw [hxd]; exact OwnI.tail PB.out⟩
              have WD : WDk V9 w1.heap.size (.agg #[.slice X1 d.t.us.length k1, .slice X2 d.t.bs.length k2, .slice X3 d.t.ns.length k3, .int .i64 m, .slice (some ⟨g6, 0, none⟩) (d.past.length + 1) c6]) ⟨d.t, m, (d.past ++ [d.now]).drop (d.past.length + 1 - 8)⟩ := ⟨_, _, _, _, rfl, TB.out, by show OwnI _ _ _ (List.drop _ _); rw [hxd]; exact PB.out, ap6.out⟩
              clear hxd
              have HW := fun u0 u1 u2 u3 u4 => (own_wd5 (u0 := u0) (u1 := u1) (u2 := u2) (u3 := u3) (u4 := u4) WD ZB.out).mono (B' := w.heap.size) (by omega)
              replace HW := Lib.hid HW
              have HF := fun u0 u1 u2 u3 u4 => (own_md5 (u0 := u0) (u1 := u1) (u2 := u2) (u3 := u3) (u4 := u4) MD ZB.out).mono (B' := w.heap.size) (by omega)
              have HG := fun u0 u1 u2 u3 u4 => below_dk5 (u0 := u0) (u1 := u1) (u2 := u2) (u3 := u3) (u4 := u4) (g := w.heap.size + 2) BB.out (by omega)
              replace HF := Lib.hid HF
              replace HG := Lib.hid HG
              clear MD WD QB ZB TB PB BB
              go_wp2
              refine bodyPost_ret (v := .tuple #[.agg #[.slice X1 d.t.us.length k1, .slice X2 d.t.bs.length k2, .slice X3 d.t.ns.length k3, .int .i64 m, .slice (some ⟨g6, 0, none⟩) (d.past.length + 1) c6], .bool true]) (by simp [results, Tryz.results63, go_sem, z0, z1, z2, z3, z4]) rfl ?_
              rw [hg.out]
              exact ⟨_, rfl, HF.out _ _ _ _ _, (fun _ => HW.out _ _ _ _ _), HG.out _ _ _ _ _⟩
      · have q4 : (kd == 4) = false := by simpa using e4
        have hgen := Lib.hid (hput.out (by simp) hk)
        clear hback hput
        have hdo := Lib.hid (hgen.out : dkDo d ⟨kd, n⟩ = putD d (madeOf d ⟨kd, n⟩))
        have K3 := Lib.hid (specMade_any _ d ⟨kd, n⟩ V HDV.out hff.out hnow)
        have hbd := made_bd d ⟨kd, n⟩ hnb.out
        generalize madeOf d ⟨kd, n⟩ = m at *
        have hno := Lib.hid (put_no (d := d) (m := m))
        have hyes := Lib.hid (put_yes (d := d) (m := m))
        clear hgen
        go_wp2_with (fail)
        refine K3.out.mono ?_
        rintro e V1 ⟨rfl, b1⟩
        have XA1 := XA.out.below b1 XA.out.lt
        have ZA1 := ZA.out.below b1 ZA.out.lt
        have QA1 := QA.out.below b1 QA.out.lt
        have OA1 := OA.out.below b1 (Nat.le_refl _)
        have BA1 := BA.out.trans (b1.mono BA.out.size)
        have HT1 := HTV.out.below b1 (Nat.le_refl _)
        have hz1 := b1.size
        have hql := QA.out.lt
        have K5 := Lib.hid (specNameOf_any _ d.t m V1 HT1 hff.out.t (by omega))
        replace XA1 := Lib.hid XA1
        replace ZA1 := Lib.hid ZA1
        replace QA1 := Lib.hid QA1
        replace OA1 := Lib.hid OA1
        replace BA1 := Lib.hid BA1
        clear b1 x0 x1 x2 x3 x4 yc0 yc1 K3 XA YA ZA QA OA BA HDV HTV HT1
        obtain ⟨⟨x0, x1, x2, x3, x4⟩, -⟩ := blk5 XA1.out
        generalize hmb : namedB d.t m = mb at *
        generalize nameOf d.t m = xs at *
        replace hmb := Lib.hid hmb
        go_wp2_with (fail)
        refine K5.out.mono ?_
        rintro e V2 ⟨v2, rfl, -, b2⟩
        have XA2 := XA1.out.below b2 XA1.out.lt
        have ZA2 := ZA1.out.below b2 ZA1.out.lt
        have QA2 := QA1.out.below b2 QA1.out.lt
        have OA2 := OA1.out.below b2 (Nat.le_refl _)
        have BA2 := BA1.out.trans (b2.mono BA1.out.size)
        have hz2 := b2.size
        replace XA2 := Lib.hid XA2
        replace ZA2 := Lib.hid ZA2
        replace QA2 := Lib.hid QA2
        replace OA2 := Lib.hid OA2
        replace BA2 := Lib.hid BA2
        clear b2 x0 x1 x2 x3 x4 K5 XA1 ZA1 QA1 OA1 BA1
        obtain ⟨⟨x0, x1, x2, x3, x4⟩, -⟩ := blk5 XA2.out
        obtain ⟨⟨y0, y1, y2, y3, y4⟩, ⟨f0, f1, f2, f3, f4⟩⟩ := blk5 QA2.out
        obtain ⟨⟨z0, z1, z2, z3, z4⟩, ⟨e0, e1, e2, e3, e4⟩⟩ := blk5 ZA2.out
        cases mb
        · have hg := Lib.hid (hdo.out.trans (hno.out (fun hh => absurd hh.1 (by simp))))
          have HW := fun u0 u1 u2 u3 u4 => (own_wd5 (u0 := u0) (u1 := u1) (u2 := u2) (u3 := u3) (u4 := u4) OA2.out.whole ZA2.out).mono (B' := w.heap.size) (by omega)
          replace HW := Lib.hid HW
          have HF := fun u0 u1 u2 u3 u4 => (own_md5 (u0 := u0) (u1 := u1) (u2 := u2) (u3 := u3) (u4 := u4) OA2.out.m ZA2.out).mono (B' := w.heap.size) (by omega)
          have HG := fun u0 u1 u2 u3 u4 => below_dk5 (u0 := u0) (u1 := u1) (u2 := u2) (u3 := u3) (u4 := u4) (g := w.heap.size + 2) BA2.out (by omega)
          replace HF := Lib.hid HF
          replace HG := Lib.hid HG
          clear XA2 ZA2 QA2 OA2 BA2 hno hyes
          go_wp2
          refine bodyPost_ret (v := .tuple #[.agg #[.slice X1 d.t.us.length k1, .slice X2 d.t.bs.length k2, .slice X3 d.t.ns.length k3, .int .i64 d.now, .slice X5 d.past.length k5], .bool false]) (by simp [results, Tryz.results63, go_sem, z0, z1, z2, z3, z4]) rfl ?_
          rw [hg.out]
          exact ⟨_, rfl, HF.out _ _ _ _ _, (fun _ => HW.out _ _ _ _ _), HG.out _ _ _ _ _⟩
        · by_cases hmn : m = d.now
          · have hg := Lib.hid (hdo.out.trans (hno.out (fun hh => hh.2 hmn)))
            have hmq : (m == d.now) = true := by simpa using hmn
            subst hmn
            have HW := fun u0 u1 u2 u3 u4 => (own_wd5 (u0 := u0) (u1 := u1) (u2 := u2) (u3 := u3) (u4 := u4) OA2.out.whole ZA2.out).mono (B' := w.heap.size) (by omega)
            replace HW := Lib.hid HW
            have HF := fun u0 u1 u2 u3 u4 => (own_md5 (u0 := u0) (u1 := u1) (u2 := u2) (u3 := u3) (u4 := u4) OA2.out.m ZA2.out).mono (B' := w.heap.size) (by omega)
            have HG := fun u0 u1 u2 u3 u4 => below_dk5 (u0 := u0) (u1 := u1) (u2 := u2) (u3 := u3) (u4 := u4) (g := w.heap.size + 2) BA2.out (by omega)
            replace HF := Lib.hid HF
            replace HG := Lib.hid HG
            clear XA2 ZA2 QA2 OA2 BA2 hno hyes
            go_wp2
            refine bodyPost_ret (v := .tuple #[.agg #[.slice X1 d.t.us.length k1, .slice X2 d.t.bs.length k2, .slice X3 d.t.ns.length k3, .int .i64 d.now, .slice X5 d.past.length k5], .bool false]) (by simp [results, Tryz.results63, go_sem, z0, z1, z2, z3, z4]) rfl ?_
            rw [hg.out]
            exact ⟨_, rfl, HF.out _ _ _ _ _, (fun _ => HW.out _ _ _ _ _), HG.out _ _ _ _ _⟩
          · have hg := Lib.hid (hdo.out.trans (hyes.out ⟨rfl, hmn⟩))
            have hmq : (m == d.now) = false := by simpa using hmn
            obtain ⟨ii0, hii, hzi0, hzi1, hzi2⟩ := info_parts int_info0
            obtain ⟨w9a, w9b, w9c, w9d, ee, ht, h5, ap⟩ := OA2.out.ex
            cases ee
            have hA := (Below.refl V2.heap.size V2).alloc (Nat.le_refl _) (.cells #[.int .i64 d.now] 3)
            have hL : Blk (V2.alloc (.cells #[.int .i64 d.now] 3)) V2.heap.size 3 #[.int .i64 d.now] := Blk.new _ _ _
            have BA3 := BA2.out.trans (hA.mono BA2.out.size)
            have QA3 := QA2.out.below hA QA2.out.lt
            have ZA3 := ZA2.out.below hA ZA2.out.lt
            have TA3 := ht.below hA (Nat.le_refl _)
            have H52 := h5.below hA (Nat.le_refl _)
            have hsz2 : (V2.alloc (.cells #[.int .i64 d.now] 3)).heap.size = V2.heap.size + 1 := by simp
            replace hL := Lib.hid (Src.one hL rfl)
            replace BA3 := Lib.hid BA3
            replace QA3 := Lib.hid QA3
            replace ZA3 := Lib.hid ZA3
            replace TA3 := Lib.hid TA3
            replace H52 := Lib.hid H52
            replace ap := Lib.hid ap
            have k1' := Lib.hid (show d.past.length + 1 ≤ maxLen by unfold maxLen; omega)
            have k2' := Lib.hid (show (d.past.length + 1) * 8 ≤ 140737488355328 by omega)
            have k3' := Lib.hid (show w1.heap.size ≤ (V2.alloc (.cells #[.int .i64 d.now] 3)).heap.size by rw [hsz2]; omega)
            have hql2 := QA2.out.lt
            replace hsz2 := Lib.hid hsz2
            clear hA ht h5 hno hyes hmb XA2 QA2 ZA2 OA2 BA2 z0 z1 z2 z3 z4 e0 e1 e2 e3 e4
            go_wp2_with (at_builtin; refine wpList_app _ rfl (.tmp 62) (.tmp 65) _ rfl w1.heap.size 3 ii0 _ 8 Tryz.underlying29 hii hzi0 hzi1 hzi2 rfl (.slice X5 d.past.length k5) d.past.length (d.past.map (Value.int .i64)) rfl H52.out (some ⟨V2.heap.size, 0, none⟩) 1 1 _ rfl hL.out k1'.out k2'.out k3'.out ?_; intro v6 w6 ho6 hg6 hat6; refine Hid.out ?_)
            obtain ⟨g6, c6, rfl, hg6B, hg6w⟩ := World.ownsRow.form ho6 (by omega)
            replace QA3 := Lib.hid (QA3.out.grown hg6 (fun e => own_blk_ne H52.out QA3.out (by decide) e.symm))
            replace ZA3 := Lib.hid (ZA3.out.grown hg6 (fun e => own_blk_ne H52.out ZA3.out (by decide) e.symm))
            have hB3 : Below w.heap.size w w6 := below_own BA3.out H52.out hg6 BA3.out.size (by omega)
            have TA4 : LTng w6 w1.heap.size (.agg #[.slice X1 d.t.us.length k1, .slice X2 d.t.bs.length k2, .slice X3 d.t.ns.length k3]) d.t := by
              obtain ⟨y1, y2, y3, ee, o1, o2, o3⟩ := TA3.out.ex
              cases ee
              exact ⟨_, _, _, rfl, own_offM o1 hg6 (fun k hk e => own_type_ne o1 H52.out (by decide) k hk e), own_offM o2 hg6 (fun k hk e => ap.out k hk e), own_offM o3 hg6 (fun k hk e => own_type_ne o3 H52.out (by decide) k hk e)⟩
            have H53 : OwnI w6 w1.heap.size (.slice (some ⟨g6, 0, none⟩) (d.past.length + 1) c6) (d.past ++ [d.now]) := by
              unfold OwnI
              rw [List.length_append, List.length_singleton, List.map_append]
              exact ho6
            have hc6 : d.past.length + 1 ≤ c6 := by
              obtain ⟨A, c, ee, hii2⟩ := H53.ints
              simp only [Value.slice.injEq] at ee
              obtain ⟨rfl, -, rfl⟩ := ee
              have := hii2.le
              rw [List.length_append, List.length_singleton] at this; exact this
            have ap6 : ∀ k, (Value.slice X2 d.t.bs.length k2).ownBlock = some k → some g6 ≠ some k := by
              obtain ⟨y1, y2, y3, ee, o1, o2, o3⟩ := TA3.out.ex
              cases ee
              intro k hk e
              rcases hat6 with h1 | h1
              · exact ap.out k hk (h1.symm.trans e)
              · have h2 := (o2.lt k hk).2
                have h3 : some g6 = some _ := h1
                rw [h3] at e
                cases e
                omega
            replace ap6 := Lib.hid ap6
            have hszw := hB3.size
            have hqw := QA3.out.lt
            replace TA3 := Lib.hid TA4
            replace H53 := Lib.hid H53
            replace BA3 := Lib.hid hB3
            clear TA4 hB3 ho6 hg6 hat6 H52 hL ap x0 x1 x2 x3 x4 y0 y1 y2 y3 y4 f0 f1 f2 f3 f4
            obtain ⟨⟨x0, x1, x2, x3, x4⟩, ⟨f0, f1, f2, f3, f4⟩⟩ := blk5 QA3.out
            have q4 : ((d.past.length + 1 : Nat) : Int) = (d.past.length : Int) + 1 := by omega
            by_cases h8 : d.past.length = 8
            · have g4 : (8 : Int) < (d.past.length : Int) + 1 := by omega
              have g5 : decide ((8 : Int) < (d.past.length : Int) + 1) = true := decide_eq_true g4
              have g6' : (1 : Int) ≤ (c6 : Int) := by omega
              have g7 : (1 : Int) ≤ (d.past.length : Int) + 1 := by omega
              have g8 : (d.past.length : Int) + 1 ≤ (c6 : Int) := by omega
              have g9 : ¬ c6 = 1 := by omega
              have g10 : d.past.length + 1 - 1 = d.past.length := by omega
              replace h8 := Lib.hid h8
              have QB := (((QA3.out.set_ 4 (.slice (some ⟨g6, 0, none⟩) (d.past.length + 1) c6)).set_ 4 (.slice (some ⟨g6, 1, none⟩) d.past.length (c6 - 1))).set_ 3 (.int .i64 m))
              simp at QB
              have ZB := (((ZA3.out.far (p := ⟨q, 4, none⟩) (by dsimp only; omega) (.slice (some ⟨g6, 0, none⟩) (d.past.length + 1) c6)).far (p := ⟨q, 4, none⟩) (by dsimp only; omega) (.slice (some ⟨g6, 1, none⟩) d.past.length (c6 - 1))).far (p := ⟨q, 3, none⟩) (by dsimp only; omega) (.int .i64 m))
              have TB := (((TA3.out.setM (i := 4) (u := .slice (some ⟨g6, 0, none⟩) (d.past.length + 1) c6) QA3.out).setM (i := 4) (u := .slice (some ⟨g6, 1, none⟩) d.past.length (c6 - 1)) (QA3.out.set_ 4 (.slice (some ⟨g6, 0, none⟩) (d.past.length + 1) c6))).setM (i := 3) (u := .int .i64 m) ((QA3.out.set_ 4 (.slice (some ⟨g6, 0, none⟩) (d.past.length + 1) c6)).set_ 4 (.slice (some ⟨g6, 1, none⟩) d.past.length (c6 - 1))))
              have PB := (setI (i := 3) (u := .int .i64 m) (setI (i := 4) (u := .slice (some ⟨g6, 1, none⟩) d.past.length (c6 - 1)) (setI (i := 4) (u := .slice (some ⟨g6, 0, none⟩) (d.past.length + 1) c6) H53.out QA3.out) (QA3.out.set_ 4 (.slice (some ⟨g6, 0, none⟩) (d.past.length + 1) c6))) ((QA3.out.set_ 4 (.slice (some ⟨g6, 0, none⟩) (d.past.length + 1) c6)).set_ 4 (.slice (some ⟨g6, 1, none⟩) d.past.length (c6 - 1))))
              have BB := (((BA3.out.setCell (p := ⟨q, 4, none⟩) (by simp; omega) (.slice (some ⟨g6, 0, none⟩) (d.past.length + 1) c6)).setCell (p := ⟨q, 4, none⟩) (by simp; omega) (.slice (some ⟨g6, 1, none⟩) d.past.length (c6 - 1))).setCell (p := ⟨q, 3, none⟩) (by simp; omega) (.int .i64 m))
              replace QB := Lib.hid QB
              replace ZB := Lib.hid ZB
              replace TB := Lib.hid TB
              replace PB := Lib.hid PB
              replace BB := Lib.hid BB
              clear QA3 ZA3 TA3 H53 BA3
              refine Lib.hid ?_
              go_upto_region 17 with (fail)
              generalize (((w6.setCell ⟨q, 4, none⟩ (.slice (some ⟨g6, 0, none⟩) (d.past.length + 1) c6)).setCell ⟨q, 4, none⟩ (.slice (some ⟨g6, 1, none⟩) d.past.length (c6 - 1))).setCell ⟨q, 3, none⟩ (.int .i64 m)) = V9 at *
              clear x0 x1 x2 x3 x4 f0 f1 f2 f3 f4
              obtain ⟨⟨x0, x1, x2, x3, x4⟩, -⟩ := blk5 QB.out
              obtain ⟨⟨z0, z1, z2, z3, z4⟩, ⟨e0, e1, e2, e3, e4⟩⟩ := blk5 ZB.out
              have hxl : ((d.past ++ [d.now]).drop (d.past.length + 1 - 8)).length = d.past.length := by have h8' := h8.out; rw [List.length_drop, List.length_append, List.length_singleton]; omega
              have PT : TailI V9 w1.heap.size (.slice (some ⟨g6, 1, none⟩) d.past.length (c6 - 1)) ((d.past ++ [d.now]).drop (d.past.length + 1 - 8)) := tail_one h8.out (by omega) PB.out
              have MD : MDk V9 w1.heap.size (.agg #[.slice X1 d.t.us.length k1, .slice X2 d.t.bs.length k2, .slice X3 d.t.ns.length k3, .int .i64 m, .slice (some ⟨g6, 1, none⟩) d.past.length (c6 - 1)]) ⟨d.t, m, (d.past ++ [d.now]).drop (d.past.length + 1 - 8)⟩ := ⟨_, _, _, _, rfl, TB.out, PT⟩
              clear PT hxl
              have HF := fun u0 u1 u2 u3 u4 => (own_md5 (u0 := u0) (u1 := u1) (u2 := u2) (u3 := u3) (u4 := u4) MD ZB.out).mono (B' := w.heap.size) (by omega)
              have HG := fun u0 u1 u2 u3 u4 => below_dk5 (u0 := u0) (u1 := u1) (u2 := u2) (u3 := u3) (u4 := u4) (g := w.heap.size + 2) BB.out (by omega)
              replace HF := Lib.hid HF
              replace HG := Lib.hid HG
              clear MD QB ZB TB PB BB
              go_wp2
              refine bodyPost_ret (v := .tuple #[.agg #[.slice X1 d.t.us.length k1, .slice X2 d.t.bs.length k2, .slice X3 d.t.ns.length k3, .int .i64 m, .slice (some ⟨g6, 1, none⟩) d.past.length (c6 - 1)], .bool true]) (by simp [results, Tryz.results63, go_sem, z0, z1, z2, z3, z4]) rfl ?_
              rw [hg.out]
              exact ⟨_, rfl, HF.out _ _ _ _ _, (fun h7 => absurd h7 (by have := h8.out; omega)), HG.out _ _ _ _ _⟩
            · have g3 : ((d.past.length : Int) + 1 ≤ 8) := by omega
              have g4 : ¬ ((8 : Int) < (d.past.length : Int) + 1) := by omega
              have g5 : decide ((8 : Int) < (d.past.length : Int) + 1) = false := decide_eq_false g4
              have QB := ((QA3.out.set_ 4 (.slice (some ⟨g6, 0, none⟩) (d.past.length + 1) c6)).set_ 3 (.int .i64 m))
              simp at QB
              have ZB := ((ZA3.out.far (p := ⟨q, 4, none⟩) (by dsimp only; omega) (.slice (some ⟨g6, 0, none⟩) (d.past.length + 1) c6)).far (p := ⟨q, 3, none⟩) (by dsimp only; omega) (.int .i64 m))
              have TB := ((TA3.out.setM (i := 4) (u := .slice (some ⟨g6, 0, none⟩) (d.past.length + 1) c6) QA3.out).setM (i := 3) (u := .int .i64 m) (QA3.out.set_ 4 (.slice (some ⟨g6, 0, none⟩) (d.past.length + 1) c6)))
              have PB := (setI (i := 3) (u := .int .i64 m) (setI (i := 4) (u := .slice (some ⟨g6, 0, none⟩) (d.past.length + 1) c6) H53.out QA3.out) (QA3.out.set_ 4 (.slice (some ⟨g6, 0, none⟩) (d.past.length + 1) c6)))
              have BB := ((BA3.out.setCell (p := ⟨q, 4, none⟩) (by simp; omega) (.slice (some ⟨g6, 0, none⟩) (d.past.length + 1) c6)).setCell (p := ⟨q, 3, none⟩) (by simp; omega) (.int .i64 m))
              replace QB := Lib.hid QB
              replace ZB := Lib.hid ZB
              replace TB := Lib.hid TB
              replace PB := Lib.hid PB
              replace BB := Lib.hid BB
              clear QA3 ZA3 TA3 H53 BA3
              refine Lib.hid ?_
              go_upto_region 17 with (fail)
              generalize ((w6.setCell ⟨q, 4, none⟩ (.slice (some ⟨g6, 0, none⟩) (d.past.length + 1) c6)).setCell ⟨q, 3, none⟩ (.int .i64 m)) = V9 at *
              clear x0 x1 x2 x3 x4 f0 f1 f2 f3 f4
              obtain ⟨⟨x0, x1, x2, x3, x4⟩, -⟩ := blk5 QB.out
              obtain ⟨⟨z0, z1, z2, z3, z4⟩, ⟨e0, e1, e2, e3, e4⟩⟩ := blk5 ZB.out
              have hxd : (d.past ++ [d.now]).drop (d.past.length + 1 - 8) = d.past ++ [d.now] := by rw [show d.past.length + 1 - 8 = 0 by omega]; rfl
              have MD : MDk V9 w1.heap.size (.agg #[.slice X1 d.t.us.length k1, .slice X2 d.t.bs.length k2, .slice X3 d.t.ns.length k3, .int .i64 m, .slice (some ⟨g6, 0, none⟩) (d.past.length + 1) c6]) ⟨d.t, m, (d.past ++ [d.now]).drop (d.past.length + 1 - 8)⟩ := ⟨_, _, _, _, rfl, TB.out, by show TailI _ _ _ (List.drop _ _); rw [hxd]; exact OwnI.tail PB.out⟩
              have WD : WDk V9 w1.heap.size (.agg #[.slice X1 d.t.us.length k1, .slice X2 d.t.bs.length k2, .slice X3 d.t.ns.length k3, .int .i64 m, .slice (some ⟨g6, 0, none⟩) (d.past.length + 1) c6]) ⟨d.t, m, (d.past ++ [d.now]).drop (d.past.length + 1 - 8)⟩ := ⟨_, _, _, _, rfl, TB.out, by show OwnI _ _ _ (List.drop _ _); rw [hxd]; exact PB.out, ap6.out⟩
              clear hxd
              have HW := fun u0 u1 u2 u3 u4 => (own_wd5 (u0 := u0) (u1 := u1) (u2 := u2) (u3 := u3) (u4 := u4) WD ZB.out).mono (B' := w.heap.size) (by omega)
              replace HW := Lib.hid HW
              have HF := fun u0 u1 u2 u3 u4 => (own_md5 (u0 := u0) (u1 := u1) (u2 := u2) (u3 := u3) (u4 := u4) MD ZB.out).mono (B' := w.heap.size) (by omega)
              have HG := fun u0 u1 u2 u3 u4 => below_dk5 (u0 := u0) (u1 := u1) (u2 := u2) (u3 := u3) (u4 := u4) (g := w.heap.size + 2) BB.out (by omega)
              replace HF := Lib.hid HF
              replace HG := Lib.hid HG
              clear MD WD QB ZB TB PB BB
              go_wp2
              refine bodyPost_ret (v := .tuple #[.agg #[.slice X1 d.t.us.length k1, .slice X2 d.t.bs.length k2, .slice X3 d.t.ns.length k3, .int .i64 m, .slice (some ⟨g6, 0, none⟩) (d.past.length + 1) c6], .bool true]) (by simp [results, Tryz.results63, go_sem, z0, z1, z2, z3, z4]) rfl ?_
              rw [hg.out]
              exact ⟨_, rfl, HF.out _ _ _ _ _, (fun _ => HW.out _ _ _ _ _), HG.out _ _ _ _ _⟩
end Go.Proofs.YtmhgpbfogdoaeaaGreatDoor

/- Jn -/
namespace Go.Proofs.YtmhgpbfogdoaeaaGreatDoor
open Go.RowKit

set_option maxRecDepth 100000 in
set_option maxHeartbeats 4000000 in
theorem specDeskNewW_any (v : Value) (t : Tg) (n : Int) (w : World) (h : Tng w v t) (hf : t.Fine) (hn : -9223372036854775808 ≤ n ∧ n ≤ 9223372036854775807) :
    Calls Tryz.prog 96 #[v, .int .i64 n] w (RetMW w 0 (dkNew t n) (namedB t n)) := by
  obtain ⟨A1, c1, A2, c2, A3, c3, rfl, -⟩ := h.ex
  have hB := ((Below.refl w.heap.size w).alloc (Nat.le_refl _) (.cells #[.slice A1 t.us.length c1, .slice A2 t.bs.length c2, .slice A3 t.ns.length c3] 31)).alloc (by simp) (.cells #[.slice none 0 0, .slice none 0 0, .slice none 0 0, .int .i64 0, .slice none 0 0] 33)
  have HX := (Blk.new w 31 #[.slice A1 t.us.length c1, .slice A2 t.bs.length c2, .slice A3 t.ns.length c3]).alloc (.cells #[.slice none 0 0, .slice none 0 0, .slice none 0 0, .int .i64 0, .slice none 0 0] 33)
  have HZ : Blk ((w.alloc (.cells #[.slice A1 t.us.length c1, .slice A2 t.bs.length c2, .slice A3 t.ns.length c3] 31)).alloc (.cells #[.slice none 0 0, .slice none 0 0, .slice none 0 0, .int .i64 0, .slice none 0 0] 33)) (w.heap.size + 1) 33 #[.slice none 0 0, .slice none 0 0, .slice none 0 0, .int .i64 0, .slice none 0 0] := blk_new_at _ (by simp)
  have HT := h.below hB (Nat.le_refl _)
  have K1 := Lib.hid (specNameOf_any _ t n _ HT hf hn)
  have hnew : namedB t n = true → dkNew t n = ⟨t, n, []⟩ := fun e => (dk_new_ok e).1
  have hno : namedB t n = false → dkNew t n = noDk := dk_new_no
  generalize namedB t n = nb at *
  generalize nameOf t n = xs at *
  generalize dkNew t n = dn at *
  replace hnew := Lib.hid hnew
  replace hno := Lib.hid hno
  replace hf := Lib.hid hf
  replace hB := Lib.hid hB
  replace HX := Lib.hid HX
  replace HZ := Lib.hid HZ
  replace HT := Lib.hid HT
  clear h
  go_enter Tryz.func96, Tryz.ntmps96
  go_upto_region 1 with (fail)
  generalize (w.alloc (.cells #[.slice A1 t.us.length c1, .slice A2 t.bs.length c2, .slice A3 t.ns.length c3] 31)).alloc (.cells #[.slice none 0 0, .slice none 0 0, .slice none 0 0, .int .i64 0, .slice none 0 0] 33) = W at *
  obtain ⟨x0, x1, x2, -, -, -⟩ := blk3 HX.out
  go_wp2_with (fail)
  refine K1.out.mono ?_
  rintro e w1 ⟨v1, rfl, -, b1⟩
  have hB1 := Lib.hid (hB.out.trans (b1.mono hB.out.size))
  have HX1 := HX.out.below b1 HX.out.lt
  have HZ1 := HZ.out.below b1 HZ.out.lt
  have HT1 := HT.out.below b1 (Nat.le_refl _)
  clear x0 x1 x2 K1 b1 HX HZ HT hB
  obtain ⟨x0, x1, x2, -, -, -⟩ := blk3 HX1
  obtain ⟨⟨z0, z1, z2, z3, z4⟩, ⟨e0, e1, e2, e3, e4⟩⟩ := blk5 HZ1
  cases nb
  · have hg := Lib.hid (hno.out rfl)
    have HF := fun u0 u1 u2 u3 u4 => own_md5 (u0 := u0) (u1 := u1) (u2 := u2) (u3 := u3) (u4 := u4) (own_mdNo w1 w.heap.size) HZ1
    have HW := Lib.hid (fun u0 u1 u2 u3 u4 => own_wd5 (u0 := u0) (u1 := u1) (u2 := u2) (u3 := u3) (u4 := u4) (own_wdNo w1 w.heap.size) HZ1)
    have HG := fun u0 u1 u2 u3 u4 => below_dk5 (u0 := u0) (u1 := u1) (u2 := u2) (u3 := u3) (u4 := u4) (g := w.heap.size + 1) hB1.out (by omega)
    replace HF := Lib.hid HF
    replace HG := Lib.hid HG
    clear HX1 HZ1 HT1 hnew hno
    go_wp2
    refine bodyPost_ret (v := .tuple #[.agg #[.slice none 0 0, .slice none 0 0, .slice none 0 0, .int .i64 0, .slice none 0 0], .bool false]) (by simp [results, Tryz.results96, go_sem, z0, z1, z2, z3, z4]) rfl ?_
    rw [hg.out]
    exact ⟨_, rfl, HF.out _ _ _ _ _, (fun _ => HW.out _ _ _ _ _), HG.out _ _ _ _ _⟩
  · have hg := Lib.hid (hnew.out rfl)
    have K2 := Lib.hid (specTongue_any _ t w1 HT1 hf.out)
    have hs1 := HZ1.lt
    replace HZ1 := Lib.hid HZ1
    clear HX1 HT1 hnew hno z0 z1 z2 z3 z4 e0 e1 e2 e3 e4
    go_wp2_with (go_at_call 113; refine K2.out.mono ?_; rintro e w2 ⟨v2, rfl, o2, b2⟩; obtain ⟨X1, k1, X2, k2, X3, k3, rfl⟩ := o2.shape; refine Hid.out ?_)
    have HZ2 := HZ1.out.below b2 HZ1.out.lt
    obtain ⟨⟨z0, z1, z2, z3, z4⟩, ⟨e0, e1, e2, e3, e4⟩⟩ := blk5 HZ2
    have hB2 := hB1.out.trans (b2.mono hB1.out.size)
    have HM : MDk w2 w.heap.size (.agg #[.slice X1 t.us.length k1, .slice X2 t.bs.length k2, .slice X3 t.ns.length k3, .int .i64 n, .slice none 0 0]) ⟨t, n, []⟩ := ⟨_, _, _, _, rfl, o2.mono hB1.out.size, OwnI.tail (owns_none _ _ _)⟩
    have HF := fun u0 u1 u2 u3 u4 => own_md5 (u0 := u0) (u1 := u1) (u2 := u2) (u3 := u3) (u4 := u4) HM HZ2
    have WM : WDk w2 w.heap.size (.agg #[.slice X1 t.us.length k1, .slice X2 t.bs.length k2, .slice X3 t.ns.length k3, .int .i64 n, .slice none 0 0]) ⟨t, n, []⟩ := ⟨_, _, _, _, rfl, o2.mono hB1.out.size, owns_none _ _ _, fun k _ e => by simp [Value.ownBlock] at e⟩
    have HW := Lib.hid (fun u0 u1 u2 u3 u4 => own_wd5 (u0 := u0) (u1 := u1) (u2 := u2) (u3 := u3) (u4 := u4) WM HZ2)
    clear WM
    have HG := fun u0 u1 u2 u3 u4 => below_dk5 (u0 := u0) (u1 := u1) (u2 := u2) (u3 := u3) (u4 := u4) (g := w.heap.size + 1) hB2 (by omega)
    replace HF := Lib.hid HF
    replace HG := Lib.hid HG
    clear x0 x1 x2 o2 b2 HM HZ2 HZ1 hB2 hB1 K2
    refine Lib.hid ?_
    go_wp2
    refine bodyPost_ret (v := .tuple #[.agg #[.slice X1 t.us.length k1, .slice X2 t.bs.length k2, .slice X3 t.ns.length k3, .int .i64 n, .slice none 0 0], .bool true]) (by simp [results, Tryz.results96, go_sem, z0, z1, z2, z3, z4]) rfl ?_
    rw [hg.out]
    exact ⟨_, rfl, HF.out _ _ _ _ _, (fun _ => HW.out _ _ _ _ _), HG.out _ _ _ _ _⟩
end Go.Proofs.YtmhgpbfogdoaeaaGreatDoor
