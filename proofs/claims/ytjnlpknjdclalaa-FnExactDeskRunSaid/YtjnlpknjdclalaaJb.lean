/-
  Contracts of the model's copies of tongues and desks.
-/
import Derived.Test.YtjnlpknjdclalaaDkL
import Derived.Test.YtjnlpknjdclalaaInv
namespace Go.Proofs.Ytjnlpknjdclalaa
open Go.RowKit

/-- What is known of the operations that have come up. -/
structure LTC (w0 : World) (t : Tg) (A1 : Option Addr) (c1 : Nat) (A2 : Option Addr) (c2 : Nat) (A3 : Option Addr) (c3 : Nat) (l : Array Bool) (w : World) (s3 s4 s5 s6 s7 s8 s9 s10 s11 s12 s13 s14 s15 : Value) : Prop where
  g0 : l.getD 0 false = true → ∃ g, s3 = .slice (some ⟨g, 0, none⟩) 0 0 ∧ Blk w g 9 #[] ∧ (w0.heap.size + 2) ≤ g
  f1 : l.getD 1 false = true → s4 = .pointer (some ⟨w0.heap.size, 0, none⟩)
  f2 : l.getD 2 false = true → s5 = .slice A1 t.us.length c1
  o3 : l.getD 3 false = true → OwnStrs w (w0.heap.size + 2) s6 t.us
  g4 : l.getD 4 false = true → ∃ g, s7 = .slice (some ⟨g, 0, none⟩) 0 0 ∧ Blk w g 3 #[] ∧ (w0.heap.size + 2) ≤ g
  f5 : l.getD 5 false = true → s8 = .pointer (some ⟨w0.heap.size, 1, none⟩)
  f6 : l.getD 6 false = true → s9 = .slice A2 t.bs.length c2
  o7 : l.getD 7 false = true → OwnI w (w0.heap.size + 2) s10 t.bs
  g8 : l.getD 8 false = true → ∃ g, s11 = .slice (some ⟨g, 0, none⟩) 0 0 ∧ Blk w g 9 #[] ∧ (w0.heap.size + 2) ≤ g
  f9 : l.getD 9 false = true → s12 = .pointer (some ⟨w0.heap.size, 2, none⟩)
  f10 : l.getD 10 false = true → s13 = .slice A3 t.ns.length c3
  o11 : l.getD 11 false = true → OwnStrs w (w0.heap.size + 2) s14 t.ns
  b12 : l.getD 12 false = true → LTng w (w0.heap.size + 2) s15 t
  hr : l.getD 13 false = true → ∃ u0 u1 u2, Blk w (w0.heap.size + 1) 26 #[u0, u1, u2] ∧ LTng w (w0.heap.size + 2) (.agg #[u0, u1, u2]) t
  hz : l.getD 13 false = false → Blk w (w0.heap.size + 1) 26 #[.slice none 0 0, .slice none 0 0, .slice none 0 0]
  hx : Blk w (w0.heap.size) 26 #[.slice A1 t.us.length c1, .slice A2 t.bs.length c2, .slice A3 t.ns.length c3]
  low : Below w0.heap.size w0 w
  sz : (w0.heap.size + 2) ≤ w.heap.size
section
variable {w0 : World} {t : Tg} {A1 : Option Addr} {c1 : Nat} {A2 : Option Addr} {c2 : Nat} {A3 : Option Addr} {c3 : Nat} {l : Array Bool} {w w' : World} {s3 s4 s5 s6 s7 s8 s9 s10 s11 s12 s13 s14 s15 v : Value}
theorem LTC.up0 (h : LTC w0 t A1 c1 A2 c2 A3 c3 l w s3 s4 s5 s6 s7 s8 s9 s10 s11 s12 s13 s14 s15)  : LTC w0 t A1 c1 A2 c2 A3 c3 (l.setIfInBounds 0 true) (w.alloc (.cells #[] 9)) (.slice (some ⟨w.heap.size, 0, none⟩) 0 0) s4 s5 s6 s7 s8 s9 s10 s11 s12 s13 s14 s15 := by
  have hb := (Below.refl w.heap.size w).alloc (Nat.le_refl _) (.cells #[] 9)
  exact ⟨(fun _ => ⟨w.heap.size, rfl, Blk.new _ _ _, h.sz⟩), (fun h' => h.f1 (listed_set h' (by decide))), (fun h' => h.f2 (listed_set h' (by decide))), (fun h' => (h.o3 (listed_set h' (by decide))).below hb (Nat.le_refl _)), (fun h' => (let ⟨g, e, b, hg⟩ := h.g4 (listed_set h' (by decide)); ⟨g, e, b.below hb b.lt, hg⟩)), (fun h' => h.f5 (listed_set h' (by decide))), (fun h' => h.f6 (listed_set h' (by decide))), (fun h' => (h.o7 (listed_set h' (by decide))).below hb (Nat.le_refl _)), (fun h' => (let ⟨g, e, b, hg⟩ := h.g8 (listed_set h' (by decide)); ⟨g, e, b.below hb b.lt, hg⟩)), (fun h' => h.f9 (listed_set h' (by decide))), (fun h' => h.f10 (listed_set h' (by decide))), (fun h' => (h.o11 (listed_set h' (by decide))).below hb (Nat.le_refl _)), (fun h' => (h.b12 (listed_set h' (by decide))).below hb (Nat.le_refl _)), (fun h' => (let ⟨u0, u1, u2, b, hd⟩ := h.hr (listed_set h' (by decide)); ⟨u0, u1, u2, b.below hb b.lt, hd.below hb (Nat.le_refl _)⟩)), (fun h' => let b := h.hz (by rwa [listed_same (by decide)] at h'); b.below hb b.lt), h.hx.below hb h.hx.lt, h.low.trans (hb.mono h.low.size), Nat.le_trans h.sz hb.size⟩
theorem LTC.up1 (h : LTC w0 t A1 c1 A2 c2 A3 c3 l w s3 s4 s5 s6 s7 s8 s9 s10 s11 s12 s13 s14 s15) (hv : v = .pointer (some ⟨w0.heap.size, 0, none⟩)) : LTC w0 t A1 c1 A2 c2 A3 c3 (l.setIfInBounds 1 true) w s3 v s5 s6 s7 s8 s9 s10 s11 s12 s13 s14 s15 :=
  ⟨(fun h' => h.g0 (listed_set h' (by decide))), (fun _ => hv), (fun h' => h.f2 (listed_set h' (by decide))), (fun h' => h.o3 (listed_set h' (by decide))), (fun h' => h.g4 (listed_set h' (by decide))), (fun h' => h.f5 (listed_set h' (by decide))), (fun h' => h.f6 (listed_set h' (by decide))), (fun h' => h.o7 (listed_set h' (by decide))), (fun h' => h.g8 (listed_set h' (by decide))), (fun h' => h.f9 (listed_set h' (by decide))), (fun h' => h.f10 (listed_set h' (by decide))), (fun h' => h.o11 (listed_set h' (by decide))), (fun h' => h.b12 (listed_set h' (by decide))), (fun h' => h.hr (listed_set h' (by decide))), (fun h' => h.hz (by rwa [listed_same (by decide)] at h')), h.hx, h.low, h.sz⟩
theorem LTC.up2 (h : LTC w0 t A1 c1 A2 c2 A3 c3 l w s3 s4 s5 s6 s7 s8 s9 s10 s11 s12 s13 s14 s15) (hv : v = .slice A1 t.us.length c1) : LTC w0 t A1 c1 A2 c2 A3 c3 (l.setIfInBounds 2 true) w s3 s4 v s6 s7 s8 s9 s10 s11 s12 s13 s14 s15 :=
  ⟨(fun h' => h.g0 (listed_set h' (by decide))), (fun h' => h.f1 (listed_set h' (by decide))), (fun _ => hv), (fun h' => h.o3 (listed_set h' (by decide))), (fun h' => h.g4 (listed_set h' (by decide))), (fun h' => h.f5 (listed_set h' (by decide))), (fun h' => h.f6 (listed_set h' (by decide))), (fun h' => h.o7 (listed_set h' (by decide))), (fun h' => h.g8 (listed_set h' (by decide))), (fun h' => h.f9 (listed_set h' (by decide))), (fun h' => h.f10 (listed_set h' (by decide))), (fun h' => h.o11 (listed_set h' (by decide))), (fun h' => h.b12 (listed_set h' (by decide))), (fun h' => h.hr (listed_set h' (by decide))), (fun h' => h.hz (by rwa [listed_same (by decide)] at h')), h.hx, h.low, h.sz⟩
theorem LTC.up3 (h : LTC w0 t A1 c1 A2 c2 A3 c3 l w s3 s4 s5 s6 s7 s8 s9 s10 s11 s12 s13 s14 s15) (hv : OwnStrs w' (w0.heap.size + 2) v t.us) (hb : Below w.heap.size w w') : LTC w0 t A1 c1 A2 c2 A3 c3 (l.setIfInBounds 3 true) w' s3 s4 s5 v s7 s8 s9 s10 s11 s12 s13 s14 s15 :=
  ⟨(fun h' => (let ⟨g, e, b, hg⟩ := h.g0 (listed_set h' (by decide)); ⟨g, e, b.below hb b.lt, hg⟩)), (fun h' => h.f1 (listed_set h' (by decide))), (fun h' => h.f2 (listed_set h' (by decide))), (fun _ => hv), (fun h' => (let ⟨g, e, b, hg⟩ := h.g4 (listed_set h' (by decide)); ⟨g, e, b.below hb b.lt, hg⟩)), (fun h' => h.f5 (listed_set h' (by decide))), (fun h' => h.f6 (listed_set h' (by decide))), (fun h' => (h.o7 (listed_set h' (by decide))).below hb (Nat.le_refl _)), (fun h' => (let ⟨g, e, b, hg⟩ := h.g8 (listed_set h' (by decide)); ⟨g, e, b.below hb b.lt, hg⟩)), (fun h' => h.f9 (listed_set h' (by decide))), (fun h' => h.f10 (listed_set h' (by decide))), (fun h' => (h.o11 (listed_set h' (by decide))).below hb (Nat.le_refl _)), (fun h' => (h.b12 (listed_set h' (by decide))).below hb (Nat.le_refl _)), (fun h' => (let ⟨u0, u1, u2, b, hd⟩ := h.hr (listed_set h' (by decide)); ⟨u0, u1, u2, b.below hb b.lt, hd.below hb (Nat.le_refl _)⟩)), (fun h' => let b := h.hz (by rwa [listed_same (by decide)] at h'); b.below hb b.lt), h.hx.below hb h.hx.lt, h.low.trans (hb.mono h.low.size), Nat.le_trans h.sz hb.size⟩
theorem LTC.up4 (h : LTC w0 t A1 c1 A2 c2 A3 c3 l w s3 s4 s5 s6 s7 s8 s9 s10 s11 s12 s13 s14 s15)  : LTC w0 t A1 c1 A2 c2 A3 c3 (l.setIfInBounds 4 true) (w.alloc (.cells #[] 3)) s3 s4 s5 s6 (.slice (some ⟨w.heap.size, 0, none⟩) 0 0) s8 s9 s10 s11 s12 s13 s14 s15 := by
  have hb := (Below.refl w.heap.size w).alloc (Nat.le_refl _) (.cells #[] 3)
  exact ⟨(fun h' => (let ⟨g, e, b, hg⟩ := h.g0 (listed_set h' (by decide)); ⟨g, e, b.below hb b.lt, hg⟩)), (fun h' => h.f1 (listed_set h' (by decide))), (fun h' => h.f2 (listed_set h' (by decide))), (fun h' => (h.o3 (listed_set h' (by decide))).below hb (Nat.le_refl _)), (fun _ => ⟨w.heap.size, rfl, Blk.new _ _ _, h.sz⟩), (fun h' => h.f5 (listed_set h' (by decide))), (fun h' => h.f6 (listed_set h' (by decide))), (fun h' => (h.o7 (listed_set h' (by decide))).below hb (Nat.le_refl _)), (fun h' => (let ⟨g, e, b, hg⟩ := h.g8 (listed_set h' (by decide)); ⟨g, e, b.below hb b.lt, hg⟩)), (fun h' => h.f9 (listed_set h' (by decide))), (fun h' => h.f10 (listed_set h' (by decide))), (fun h' => (h.o11 (listed_set h' (by decide))).below hb (Nat.le_refl _)), (fun h' => (h.b12 (listed_set h' (by decide))).below hb (Nat.le_refl _)), (fun h' => (let ⟨u0, u1, u2, b, hd⟩ := h.hr (listed_set h' (by decide)); ⟨u0, u1, u2, b.below hb b.lt, hd.below hb (Nat.le_refl _)⟩)), (fun h' => let b := h.hz (by rwa [listed_same (by decide)] at h'); b.below hb b.lt), h.hx.below hb h.hx.lt, h.low.trans (hb.mono h.low.size), Nat.le_trans h.sz hb.size⟩
theorem LTC.up5 (h : LTC w0 t A1 c1 A2 c2 A3 c3 l w s3 s4 s5 s6 s7 s8 s9 s10 s11 s12 s13 s14 s15) (hv : v = .pointer (some ⟨w0.heap.size, 1, none⟩)) : LTC w0 t A1 c1 A2 c2 A3 c3 (l.setIfInBounds 5 true) w s3 s4 s5 s6 s7 v s9 s10 s11 s12 s13 s14 s15 :=
  ⟨(fun h' => h.g0 (listed_set h' (by decide))), (fun h' => h.f1 (listed_set h' (by decide))), (fun h' => h.f2 (listed_set h' (by decide))), (fun h' => h.o3 (listed_set h' (by decide))), (fun h' => h.g4 (listed_set h' (by decide))), (fun _ => hv), (fun h' => h.f6 (listed_set h' (by decide))), (fun h' => h.o7 (listed_set h' (by decide))), (fun h' => h.g8 (listed_set h' (by decide))), (fun h' => h.f9 (listed_set h' (by decide))), (fun h' => h.f10 (listed_set h' (by decide))), (fun h' => h.o11 (listed_set h' (by decide))), (fun h' => h.b12 (listed_set h' (by decide))), (fun h' => h.hr (listed_set h' (by decide))), (fun h' => h.hz (by rwa [listed_same (by decide)] at h')), h.hx, h.low, h.sz⟩
theorem LTC.up6 (h : LTC w0 t A1 c1 A2 c2 A3 c3 l w s3 s4 s5 s6 s7 s8 s9 s10 s11 s12 s13 s14 s15) (hv : v = .slice A2 t.bs.length c2) : LTC w0 t A1 c1 A2 c2 A3 c3 (l.setIfInBounds 6 true) w s3 s4 s5 s6 s7 s8 v s10 s11 s12 s13 s14 s15 :=
  ⟨(fun h' => h.g0 (listed_set h' (by decide))), (fun h' => h.f1 (listed_set h' (by decide))), (fun h' => h.f2 (listed_set h' (by decide))), (fun h' => h.o3 (listed_set h' (by decide))), (fun h' => h.g4 (listed_set h' (by decide))), (fun h' => h.f5 (listed_set h' (by decide))), (fun _ => hv), (fun h' => h.o7 (listed_set h' (by decide))), (fun h' => h.g8 (listed_set h' (by decide))), (fun h' => h.f9 (listed_set h' (by decide))), (fun h' => h.f10 (listed_set h' (by decide))), (fun h' => h.o11 (listed_set h' (by decide))), (fun h' => h.b12 (listed_set h' (by decide))), (fun h' => h.hr (listed_set h' (by decide))), (fun h' => h.hz (by rwa [listed_same (by decide)] at h')), h.hx, h.low, h.sz⟩
theorem LTC.up7 (h : LTC w0 t A1 c1 A2 c2 A3 c3 l w s3 s4 s5 s6 s7 s8 s9 s10 s11 s12 s13 s14 s15) (hv : OwnI w' (w0.heap.size + 2) v t.bs) (hb : Below w.heap.size w w') : LTC w0 t A1 c1 A2 c2 A3 c3 (l.setIfInBounds 7 true) w' s3 s4 s5 s6 s7 s8 s9 v s11 s12 s13 s14 s15 :=
  ⟨(fun h' => (let ⟨g, e, b, hg⟩ := h.g0 (listed_set h' (by decide)); ⟨g, e, b.below hb b.lt, hg⟩)), (fun h' => h.f1 (listed_set h' (by decide))), (fun h' => h.f2 (listed_set h' (by decide))), (fun h' => (h.o3 (listed_set h' (by decide))).below hb (Nat.le_refl _)), (fun h' => (let ⟨g, e, b, hg⟩ := h.g4 (listed_set h' (by decide)); ⟨g, e, b.below hb b.lt, hg⟩)), (fun h' => h.f5 (listed_set h' (by decide))), (fun h' => h.f6 (listed_set h' (by decide))), (fun _ => hv), (fun h' => (let ⟨g, e, b, hg⟩ := h.g8 (listed_set h' (by decide)); ⟨g, e, b.below hb b.lt, hg⟩)), (fun h' => h.f9 (listed_set h' (by decide))), (fun h' => h.f10 (listed_set h' (by decide))), (fun h' => (h.o11 (listed_set h' (by decide))).below hb (Nat.le_refl _)), (fun h' => (h.b12 (listed_set h' (by decide))).below hb (Nat.le_refl _)), (fun h' => (let ⟨u0, u1, u2, b, hd⟩ := h.hr (listed_set h' (by decide)); ⟨u0, u1, u2, b.below hb b.lt, hd.below hb (Nat.le_refl _)⟩)), (fun h' => let b := h.hz (by rwa [listed_same (by decide)] at h'); b.below hb b.lt), h.hx.below hb h.hx.lt, h.low.trans (hb.mono h.low.size), Nat.le_trans h.sz hb.size⟩
theorem LTC.up8 (h : LTC w0 t A1 c1 A2 c2 A3 c3 l w s3 s4 s5 s6 s7 s8 s9 s10 s11 s12 s13 s14 s15)  : LTC w0 t A1 c1 A2 c2 A3 c3 (l.setIfInBounds 8 true) (w.alloc (.cells #[] 9)) s3 s4 s5 s6 s7 s8 s9 s10 (.slice (some ⟨w.heap.size, 0, none⟩) 0 0) s12 s13 s14 s15 := by
  have hb := (Below.refl w.heap.size w).alloc (Nat.le_refl _) (.cells #[] 9)
  exact ⟨(fun h' => (let ⟨g, e, b, hg⟩ := h.g0 (listed_set h' (by decide)); ⟨g, e, b.below hb b.lt, hg⟩)), (fun h' => h.f1 (listed_set h' (by decide))), (fun h' => h.f2 (listed_set h' (by decide))), (fun h' => (h.o3 (listed_set h' (by decide))).below hb (Nat.le_refl _)), (fun h' => (let ⟨g, e, b, hg⟩ := h.g4 (listed_set h' (by decide)); ⟨g, e, b.below hb b.lt, hg⟩)), (fun h' => h.f5 (listed_set h' (by decide))), (fun h' => h.f6 (listed_set h' (by decide))), (fun h' => (h.o7 (listed_set h' (by decide))).below hb (Nat.le_refl _)), (fun _ => ⟨w.heap.size, rfl, Blk.new _ _ _, h.sz⟩), (fun h' => h.f9 (listed_set h' (by decide))), (fun h' => h.f10 (listed_set h' (by decide))), (fun h' => (h.o11 (listed_set h' (by decide))).below hb (Nat.le_refl _)), (fun h' => (h.b12 (listed_set h' (by decide))).below hb (Nat.le_refl _)), (fun h' => (let ⟨u0, u1, u2, b, hd⟩ := h.hr (listed_set h' (by decide)); ⟨u0, u1, u2, b.below hb b.lt, hd.below hb (Nat.le_refl _)⟩)), (fun h' => let b := h.hz (by rwa [listed_same (by decide)] at h'); b.below hb b.lt), h.hx.below hb h.hx.lt, h.low.trans (hb.mono h.low.size), Nat.le_trans h.sz hb.size⟩
theorem LTC.up9 (h : LTC w0 t A1 c1 A2 c2 A3 c3 l w s3 s4 s5 s6 s7 s8 s9 s10 s11 s12 s13 s14 s15) (hv : v = .pointer (some ⟨w0.heap.size, 2, none⟩)) : LTC w0 t A1 c1 A2 c2 A3 c3 (l.setIfInBounds 9 true) w s3 s4 s5 s6 s7 s8 s9 s10 s11 v s13 s14 s15 :=
  ⟨(fun h' => h.g0 (listed_set h' (by decide))), (fun h' => h.f1 (listed_set h' (by decide))), (fun h' => h.f2 (listed_set h' (by decide))), (fun h' => h.o3 (listed_set h' (by decide))), (fun h' => h.g4 (listed_set h' (by decide))), (fun h' => h.f5 (listed_set h' (by decide))), (fun h' => h.f6 (listed_set h' (by decide))), (fun h' => h.o7 (listed_set h' (by decide))), (fun h' => h.g8 (listed_set h' (by decide))), (fun _ => hv), (fun h' => h.f10 (listed_set h' (by decide))), (fun h' => h.o11 (listed_set h' (by decide))), (fun h' => h.b12 (listed_set h' (by decide))), (fun h' => h.hr (listed_set h' (by decide))), (fun h' => h.hz (by rwa [listed_same (by decide)] at h')), h.hx, h.low, h.sz⟩
theorem LTC.up10 (h : LTC w0 t A1 c1 A2 c2 A3 c3 l w s3 s4 s5 s6 s7 s8 s9 s10 s11 s12 s13 s14 s15) (hv : v = .slice A3 t.ns.length c3) : LTC w0 t A1 c1 A2 c2 A3 c3 (l.setIfInBounds 10 true) w s3 s4 s5 s6 s7 s8 s9 s10 s11 s12 v s14 s15 :=
  ⟨(fun h' => h.g0 (listed_set h' (by decide))), (fun h' => h.f1 (listed_set h' (by decide))), (fun h' => h.f2 (listed_set h' (by decide))), (fun h' => h.o3 (listed_set h' (by decide))), (fun h' => h.g4 (listed_set h' (by decide))), (fun h' => h.f5 (listed_set h' (by decide))), (fun h' => h.f6 (listed_set h' (by decide))), (fun h' => h.o7 (listed_set h' (by decide))), (fun h' => h.g8 (listed_set h' (by decide))), (fun h' => h.f9 (listed_set h' (by decide))), (fun _ => hv), (fun h' => h.o11 (listed_set h' (by decide))), (fun h' => h.b12 (listed_set h' (by decide))), (fun h' => h.hr (listed_set h' (by decide))), (fun h' => h.hz (by rwa [listed_same (by decide)] at h')), h.hx, h.low, h.sz⟩
theorem LTC.up11 (h : LTC w0 t A1 c1 A2 c2 A3 c3 l w s3 s4 s5 s6 s7 s8 s9 s10 s11 s12 s13 s14 s15) (hv : OwnStrs w' (w0.heap.size + 2) v t.ns) (hb : Below w.heap.size w w') : LTC w0 t A1 c1 A2 c2 A3 c3 (l.setIfInBounds 11 true) w' s3 s4 s5 s6 s7 s8 s9 s10 s11 s12 s13 v s15 :=
  ⟨(fun h' => (let ⟨g, e, b, hg⟩ := h.g0 (listed_set h' (by decide)); ⟨g, e, b.below hb b.lt, hg⟩)), (fun h' => h.f1 (listed_set h' (by decide))), (fun h' => h.f2 (listed_set h' (by decide))), (fun h' => (h.o3 (listed_set h' (by decide))).below hb (Nat.le_refl _)), (fun h' => (let ⟨g, e, b, hg⟩ := h.g4 (listed_set h' (by decide)); ⟨g, e, b.below hb b.lt, hg⟩)), (fun h' => h.f5 (listed_set h' (by decide))), (fun h' => h.f6 (listed_set h' (by decide))), (fun h' => (h.o7 (listed_set h' (by decide))).below hb (Nat.le_refl _)), (fun h' => (let ⟨g, e, b, hg⟩ := h.g8 (listed_set h' (by decide)); ⟨g, e, b.below hb b.lt, hg⟩)), (fun h' => h.f9 (listed_set h' (by decide))), (fun h' => h.f10 (listed_set h' (by decide))), (fun _ => hv), (fun h' => (h.b12 (listed_set h' (by decide))).below hb (Nat.le_refl _)), (fun h' => (let ⟨u0, u1, u2, b, hd⟩ := h.hr (listed_set h' (by decide)); ⟨u0, u1, u2, b.below hb b.lt, hd.below hb (Nat.le_refl _)⟩)), (fun h' => let b := h.hz (by rwa [listed_same (by decide)] at h'); b.below hb b.lt), h.hx.below hb h.hx.lt, h.low.trans (hb.mono h.low.size), Nat.le_trans h.sz hb.size⟩
theorem LTC.up12 (h : LTC w0 t A1 c1 A2 c2 A3 c3 l w s3 s4 s5 s6 s7 s8 s9 s10 s11 s12 s13 s14 s15) (hv : LTng w (w0.heap.size + 2) v t) : LTC w0 t A1 c1 A2 c2 A3 c3 (l.setIfInBounds 12 true) w s3 s4 s5 s6 s7 s8 s9 s10 s11 s12 s13 s14 v :=
  ⟨(fun h' => h.g0 (listed_set h' (by decide))), (fun h' => h.f1 (listed_set h' (by decide))), (fun h' => h.f2 (listed_set h' (by decide))), (fun h' => h.o3 (listed_set h' (by decide))), (fun h' => h.g4 (listed_set h' (by decide))), (fun h' => h.f5 (listed_set h' (by decide))), (fun h' => h.f6 (listed_set h' (by decide))), (fun h' => h.o7 (listed_set h' (by decide))), (fun h' => h.g8 (listed_set h' (by decide))), (fun h' => h.f9 (listed_set h' (by decide))), (fun h' => h.f10 (listed_set h' (by decide))), (fun h' => h.o11 (listed_set h' (by decide))), (fun _ => hv), (fun h' => h.hr (listed_set h' (by decide))), (fun h' => h.hz (by rwa [listed_same (by decide)] at h')), h.hx, h.low, h.sz⟩
theorem LTC.up13 (h : LTC w0 t A1 c1 A2 c2 A3 c3 l w s3 s4 s5 s6 s7 s8 s9 s10 s11 s12 s13 s14 s15) {u0 u1 u2 : Value} (hsz : l.size = 14) (hun : l.getD 13 false = false) (hv : LTng w (w0.heap.size + 2) (.agg #[u0, u1, u2]) t) (hxq : w0.heap.size ≠ (w0.heap.size + 1)) : LTC w0 t A1 c1 A2 c2 A3 c3 (l.setIfInBounds 13 true) (((w.setCell ⟨(w0.heap.size + 1), 0, none⟩ u0).setCell ⟨(w0.heap.size + 1), 1, none⟩ u1).setCell ⟨(w0.heap.size + 1), 2, none⟩ u2) s3 s4 s5 s6 s7 s8 s9 s10 s11 s12 s13 s14 s15 := by
  have HB : Blk (((w.setCell ⟨(w0.heap.size + 1), 0, none⟩ u0).setCell ⟨(w0.heap.size + 1), 1, none⟩ u1).setCell ⟨(w0.heap.size + 1), 2, none⟩ u2) (w0.heap.size + 1) 26 #[u0, u1, u2] := by
    have := (Blk.set_ (Blk.set_ (Blk.set_ (h.hz hun) 0 u0) 1 u1) 2 u2)
    simpa using this
  have HS : ∀ {B : Nat} {v : Value} {xs : List ByteArray}, OwnStrs w B v xs → OwnStrs (((w.setCell ⟨(w0.heap.size + 1), 0, none⟩ u0).setCell ⟨(w0.heap.size + 1), 1, none⟩ u1).setCell ⟨(w0.heap.size + 1), 2, none⟩ u2) B v xs := fun {B v xs} ho => by
    have m := own_blk_ne ho (h.hz hun) (by decide)
    exact (own_set (own_set (own_set ho m) m) m)
  have HI : ∀ {B : Nat} {v : Value} {xs : List Int}, OwnI w B v xs → OwnI (((w.setCell ⟨(w0.heap.size + 1), 0, none⟩ u0).setCell ⟨(w0.heap.size + 1), 1, none⟩ u1).setCell ⟨(w0.heap.size + 1), 2, none⟩ u2) B v xs := fun {B v xs} ho => by
    have m := own_blk_ne ho (h.hz hun) (by decide)
    exact (own_set (own_set (own_set ho m) m) m)
  have HRS := @HS
  have HRI := @HI
  have HRT : ∀ {B : Nat} {v : Value} {t : Tg}, LTng w B v t → LTng (((w.setCell ⟨(w0.heap.size + 1), 0, none⟩ u0).setCell ⟨(w0.heap.size + 1), 1, none⟩ u1).setCell ⟨(w0.heap.size + 1), 2, none⟩ u2) B v t := fun {B v t} ho => by
    obtain ⟨v1, v2, v3, e, o1, o2, o3⟩ := ho.ex
    exact ⟨v1, v2, v3, e, HS o1, HI o2, HS o3⟩
  have HRB : ∀ {v : Value}, LTng w (w0.heap.size + 2) v t → LTng (((w.setCell ⟨(w0.heap.size + 1), 0, none⟩ u0).setCell ⟨(w0.heap.size + 1), 1, none⟩ u1).setCell ⟨(w0.heap.size + 1), 2, none⟩ u2) (w0.heap.size + 2) v t := fun {v} ho => by
    exact HRT ho
  have HL : ∀ {g : Nat} {t : TypeId}, Blk w g t #[] → t ≠ 26 → Blk (((w.setCell ⟨(w0.heap.size + 1), 0, none⟩ u0).setCell ⟨(w0.heap.size + 1), 1, none⟩ u1).setCell ⟨(w0.heap.size + 1), 2, none⟩ u2) g t #[] := fun {g t} b hne => by
    have m : g ≠ (w0.heap.size + 1) := fun e => by
      subst e
      have e1 := b
      have e2 := (h.hz hun)
      unfold Blk at e1 e2
      rw [e1] at e2
      injection e2 with e2
      injection e2 with _ e3
      exact hne e3
    exact (Blk.far (Blk.far (Blk.far b (p := ⟨(w0.heap.size + 1), 0, none⟩) m u0) (p := ⟨(w0.heap.size + 1), 1, none⟩) m u1) (p := ⟨(w0.heap.size + 1), 2, none⟩) m u2)
  have HX : Blk (((w.setCell ⟨(w0.heap.size + 1), 0, none⟩ u0).setCell ⟨(w0.heap.size + 1), 1, none⟩ u1).setCell ⟨(w0.heap.size + 1), 2, none⟩ u2) (w0.heap.size) 26 #[.slice A1 t.us.length c1, .slice A2 t.bs.length c2, .slice A3 t.ns.length c3] := (Blk.far (Blk.far (Blk.far h.hx (p := ⟨(w0.heap.size + 1), 0, none⟩) hxq u0) (p := ⟨(w0.heap.size + 1), 1, none⟩) hxq u1) (p := ⟨(w0.heap.size + 1), 2, none⟩) hxq u2)
  have HLow : Below w0.heap.size w0 (((w.setCell ⟨(w0.heap.size + 1), 0, none⟩ u0).setCell ⟨(w0.heap.size + 1), 1, none⟩ u1).setCell ⟨(w0.heap.size + 1), 2, none⟩ u2) := (Below.setCell (Below.setCell (Below.setCell h.low (p := ⟨(w0.heap.size + 1), 0, none⟩) (by simp) u0) (p := ⟨(w0.heap.size + 1), 1, none⟩) (by simp) u1) (p := ⟨(w0.heap.size + 1), 2, none⟩) (by simp) u2)
  have HV := HRB hv
  exact ⟨(fun h' => let ⟨g, e, b, hg⟩ := h.g0 (listed_set h' (by decide)); ⟨g, e, HL b (by decide), hg⟩), (fun h' => h.f1 (listed_set h' (by decide))), (fun h' => h.f2 (listed_set h' (by decide))), (fun h' => HRS (h.o3 (listed_set h' (by decide)))), (fun h' => let ⟨g, e, b, hg⟩ := h.g4 (listed_set h' (by decide)); ⟨g, e, HL b (by decide), hg⟩), (fun h' => h.f5 (listed_set h' (by decide))), (fun h' => h.f6 (listed_set h' (by decide))), (fun h' => HRI (h.o7 (listed_set h' (by decide)))), (fun h' => let ⟨g, e, b, hg⟩ := h.g8 (listed_set h' (by decide)); ⟨g, e, HL b (by decide), hg⟩), (fun h' => h.f9 (listed_set h' (by decide))), (fun h' => h.f10 (listed_set h' (by decide))), (fun h' => HRS (h.o11 (listed_set h' (by decide)))), (fun h' => HRB (h.b12 (listed_set h' (by decide)))), (fun _ => ⟨_, _, _, HB, HV⟩), (fun h' => by rw [listed_at (by omega)] at h'; cases h'), HX, HLow, by simpa using h.sz⟩
end

/-- A tongue is returned, in rows of the call's own. -/
def RetLT (w : World) (t : Tg) (e : Ending) (w' : World) : Prop := ∃ v, e = .returned v ∧ LTng w' w.heap.size v t ∧ Below w.heap.size w w'
set_option maxRecDepth 100000 in
set_option maxHeartbeats 8000000 in
theorem specTongue_any (v : Value) (t : Tg) (w0 : World) (h : Tng w0 v t) (hf : t.Fine) :
    Calls Try.prog 59 #[v] w0 (RetLT w0 t) := by
  obtain ⟨is0, his, hzs0, hzs1, hzs2⟩ := info_parts str_info
  obtain ⟨ii0, hii, hzi0, hzi1, hzi2⟩ := info_parts int_info0
  obtain ⟨A1, c1, A2, c2, A3, c3, rfl, h1, h2, h3⟩ := h.ex
  have hu := hf.us
  have hb := hf.bs
  have hn := hf.ns
  have HS1 := Lib.hid (fun W (hb : Below w0.heap.size w0 W) => (h1.below hb (Nat.le_refl _)).src)
  have HS2 := Lib.hid (fun W (hb : Below w0.heap.size w0 W) => (h2.below hb (Nat.le_refl _)).src)
  have HS3 := Lib.hid (fun W (hb : Below w0.heap.size w0 W) => (h3.below hb (Nat.le_refl _)).src)
  have hB := ((Below.refl w0.heap.size w0).alloc (Nat.le_refl _) (.cells #[.slice A1 t.us.length c1, .slice A2 t.bs.length c2, .slice A3 t.ns.length c3] 26)).alloc (by simp) (.cells #[.slice none 0 0, .slice none 0 0, .slice none 0 0] 26)
  have HX := (Blk.new w0 26 #[.slice A1 t.us.length c1, .slice A2 t.bs.length c2, .slice A3 t.ns.length c3]).alloc (.cells #[.slice none 0 0, .slice none 0 0, .slice none 0 0] 26)
  have HZ : Blk ((w0.alloc (.cells #[.slice A1 t.us.length c1, .slice A2 t.bs.length c2, .slice A3 t.ns.length c3] 26)).alloc (.cells #[.slice none 0 0, .slice none 0 0, .slice none 0 0] 26)) (w0.heap.size + 1) 26 #[.slice none 0 0, .slice none 0 0, .slice none 0 0] := blk_new_at _ (by simp)
  have hsW : ((w0.alloc (.cells #[.slice A1 t.us.length c1, .slice A2 t.bs.length c2, .slice A3 t.ns.length c3] 26)).alloc (.cells #[.slice none 0 0, .slice none 0 0, .slice none 0 0] 26)).heap.size = w0.heap.size + 2 := by simp
  replace hB := Lib.hid hB
  replace HX := Lib.hid HX
  replace HZ := Lib.hid HZ
  replace hsW := Lib.hid hsW
  clear h h1 h2 h3 hf
  go_enter Try.func59, Try.ntmps59
  go_upto_region 1 with (fail)
  generalize (w0.alloc (.cells #[.slice A1 t.us.length c1, .slice A2 t.bs.length c2, .slice A3 t.ns.length c3] 26)).alloc (.cells #[.slice none 0 0, .slice none 0 0, .slice none 0 0] 26) = W at *
  refine wp_region_any (by kernel_rfl) ?_
  refine wpAny_inv (Inv := fun l a w' => ∃ (s3 s4 s5 s6 s7 s8 s9 s10 s11 s12 s13 s14 s15 : Value), a = ⟨#[.agg #[.slice A1 t.us.length c1, .slice A2 t.bs.length c2, .slice A3 t.ns.length c3], .pointer (some ⟨w0.heap.size, 0, none⟩), .pointer (some ⟨w0.heap.size + 1, 0, none⟩), s3, s4, s5, s6, s7, s8, s9, s10, s11, s12, s13, s14, s15], []⟩ ∧ LTC w0 t A1 c1 A2 c2 A3 c3 l w' s3 s4 s5 s6 s7 s8 s9 s10 s11 s12 s13 s14 s15) (ord_spec (by kernel_rfl)) ?_ ?_ _ _ _ _ rfl (by decide) ?_
  · rintro l a w' ⟨s3, s4, s5, s6, s7, s8, s9, s10, s11, s12, s13, s14, s15, rfl, hF⟩ hsz hl
    have hl' : ∀ j, j < 14 → l.getD j false = true := hl
    obtain ⟨u0, u1, u2, HB, HV⟩ := hF.hr (hl' 13 (by decide))
    obtain ⟨r0, r1, r2, -, -, -⟩ := blk3 HB
    have HR : RetLT w0 t (.returned (.agg #[u0, u1, u2])) w' := ⟨_, rfl, HV.mono (by omega), hF.low⟩
    replace HR := Lib.hid HR
    clear hF hl hl' hsz HB HV
    go_wp2
    refine bodyPost_ret (v := .agg #[u0, u1, u2]) (by simp [results, Try.results59, go_sem, r0, r1, r2]) rfl ?_
    exact HR.out
  · rintro l a w' ⟨s3, s4, s5, s6, s7, s8, s9, s10, s11, s12, s13, s14, s15, rfl, hF⟩ hsz i o hlt ho hun hall
    have hlt' : i < 14 := hlt
    refine wpOp_step ho (fun K' hK => ?_)
    replace hK := Lib.hid hK
    obtain rfl | rfl | rfl | rfl | rfl | rfl | rfl | rfl | rfl | rfl | rfl | rfl | rfl | rfl : i = 0 ∨ i = 1 ∨ i = 2 ∨ i = 3 ∨ i = 4 ∨ i = 5 ∨ i = 6 ∨ i = 7 ∨ i = 8 ∨ i = 9 ∨ i = 10 ∨ i = 11 ∨ i = 12 ∨ i = 13 := by omega
    · simp only [List.getElem?_toArray, List.getElem?_cons_zero, Option.some.injEq] at ho
      subst ho
      replace hF := Lib.hid hF
      clear hall
      go_simp
      refine hK.out _ _ ?_
      exact ⟨_, _, _, _, _, _, _, _, _, _, _, _, _, rfl, hF.out.up0⟩
    · simp only [List.getElem?_toArray, List.getElem?_cons_succ, List.getElem?_cons_zero, Option.some.injEq] at ho
      subst ho
      replace hF := Lib.hid hF
      clear hall
      go_simp
      refine hK.out _ _ ?_
      exact ⟨_, _, _, _, _, _, _, _, _, _, _, _, _, rfl, hF.out.up1 rfl⟩
    · simp only [List.getElem?_toArray, List.getElem?_cons_succ, List.getElem?_cons_zero, Option.some.injEq] at ho
      subst ho
      have e1 := hF.f1 (hall ⟨1, Ground.data⟩ (by simp) rfl)
      subst e1
      obtain ⟨x0, x1, x2, -, -, -⟩ := blk3 hF.hx
      replace hF := Lib.hid hF
      clear hall
      go_simp
      refine hK.out _ _ ?_
      exact ⟨_, _, _, _, _, _, _, _, _, _, _, _, _, rfl, hF.out.up2 rfl⟩
    · simp only [List.getElem?_toArray, List.getElem?_cons_succ, List.getElem?_cons_zero, Option.some.injEq] at ho
      subst ho
      have e2 := hF.f2 (hall ⟨2, Ground.data⟩ (by simp) rfl)
      subst e2
      obtain ⟨g, eg, bg, hBg⟩ := hF.g0 (hall ⟨0, Ground.data⟩ (by simp) rfl)
      have h0l := (hall ⟨0, Ground.data⟩ (by simp) rfl)
      subst eg
      have hsB := hF.sz
      have hs1 := HS1.out w' hF.low
      replace hF := Lib.hid hF
      replace hs1 := Lib.hid hs1
      replace bg := Lib.hid bg
      clear hall
      refine step_app0 _ rfl (.tmp 3) (.tmp 5) _ rfl ((w0.heap.size + 2)) 9 is0 _ 16 Try.underlying23 his hzs0 hzs1 hzs2 rfl g rfl bg.out hBg A1 t.us.length c1 _ rfl hs1.out (by unfold maxLen; omega) (by omega) hsB ?_
      intro v8 w8 ho8 hb8 hat8
      have hv : OwnStrs w8 (w0.heap.size + 2) v8 t.us := ho8
      refine hK.out _ _ ?_
      exact ⟨_, _, _, _, _, _, _, _, _, _, _, _, _, rfl, hF.out.up3 hv hb8⟩
    · simp only [List.getElem?_toArray, List.getElem?_cons_succ, List.getElem?_cons_zero, Option.some.injEq] at ho
      subst ho
      replace hF := Lib.hid hF
      clear hall
      go_simp
      refine hK.out _ _ ?_
      exact ⟨_, _, _, _, _, _, _, _, _, _, _, _, _, rfl, hF.out.up4⟩
    · simp only [List.getElem?_toArray, List.getElem?_cons_succ, List.getElem?_cons_zero, Option.some.injEq] at ho
      subst ho
      replace hF := Lib.hid hF
      clear hall
      go_simp
      refine hK.out _ _ ?_
      exact ⟨_, _, _, _, _, _, _, _, _, _, _, _, _, rfl, hF.out.up5 rfl⟩
    · simp only [List.getElem?_toArray, List.getElem?_cons_succ, List.getElem?_cons_zero, Option.some.injEq] at ho
      subst ho
      have e5 := hF.f5 (hall ⟨5, Ground.data⟩ (by simp) rfl)
      subst e5
      obtain ⟨x0, x1, x2, -, -, -⟩ := blk3 hF.hx
      replace hF := Lib.hid hF
      clear hall
      go_simp
      refine hK.out _ _ ?_
      exact ⟨_, _, _, _, _, _, _, _, _, _, _, _, _, rfl, hF.out.up6 rfl⟩
    · simp only [List.getElem?_toArray, List.getElem?_cons_succ, List.getElem?_cons_zero, Option.some.injEq] at ho
      subst ho
      have e6 := hF.f6 (hall ⟨6, Ground.data⟩ (by simp) rfl)
      subst e6
      obtain ⟨g, eg, bg, hBg⟩ := hF.g4 (hall ⟨4, Ground.data⟩ (by simp) rfl)
      have h4l := (hall ⟨4, Ground.data⟩ (by simp) rfl)
      subst eg
      have hsB := hF.sz
      have hs1 := HS2.out w' hF.low
      replace hF := Lib.hid hF
      replace hs1 := Lib.hid hs1
      replace bg := Lib.hid bg
      clear hall
      refine step_app0 _ rfl (.tmp 7) (.tmp 9) _ rfl ((w0.heap.size + 2)) 3 ii0 _ 8 Try.underlying24 hii hzi0 hzi1 hzi2 rfl g rfl bg.out hBg A2 t.bs.length c2 _ rfl hs1.out (by unfold maxLen; omega) (by omega) hsB ?_
      intro v8 w8 ho8 hb8 hat8
      have hv : OwnI w8 (w0.heap.size + 2) v8 t.bs := ho8
      refine hK.out _ _ ?_
      exact ⟨_, _, _, _, _, _, _, _, _, _, _, _, _, rfl, hF.out.up7 hv hb8⟩
    · simp only [List.getElem?_toArray, List.getElem?_cons_succ, List.getElem?_cons_zero, Option.some.injEq] at ho
      subst ho
      replace hF := Lib.hid hF
      clear hall
      go_simp
      refine hK.out _ _ ?_
      exact ⟨_, _, _, _, _, _, _, _, _, _, _, _, _, rfl, hF.out.up8⟩
    · simp only [List.getElem?_toArray, List.getElem?_cons_succ, List.getElem?_cons_zero, Option.some.injEq] at ho
      subst ho
      replace hF := Lib.hid hF
      clear hall
      go_simp
      refine hK.out _ _ ?_
      exact ⟨_, _, _, _, _, _, _, _, _, _, _, _, _, rfl, hF.out.up9 rfl⟩
    · simp only [List.getElem?_toArray, List.getElem?_cons_succ, List.getElem?_cons_zero, Option.some.injEq] at ho
      subst ho
      have e9 := hF.f9 (hall ⟨9, Ground.data⟩ (by simp) rfl)
      subst e9
      obtain ⟨x0, x1, x2, -, -, -⟩ := blk3 hF.hx
      replace hF := Lib.hid hF
      clear hall
      go_simp
      refine hK.out _ _ ?_
      exact ⟨_, _, _, _, _, _, _, _, _, _, _, _, _, rfl, hF.out.up10 rfl⟩
    · simp only [List.getElem?_toArray, List.getElem?_cons_succ, List.getElem?_cons_zero, Option.some.injEq] at ho
      subst ho
      have e10 := hF.f10 (hall ⟨10, Ground.data⟩ (by simp) rfl)
      subst e10
      obtain ⟨g, eg, bg, hBg⟩ := hF.g8 (hall ⟨8, Ground.data⟩ (by simp) rfl)
      have h8l := (hall ⟨8, Ground.data⟩ (by simp) rfl)
      subst eg
      have hsB := hF.sz
      have hs1 := HS3.out w' hF.low
      replace hF := Lib.hid hF
      replace hs1 := Lib.hid hs1
      replace bg := Lib.hid bg
      clear hall
      refine step_app0 _ rfl (.tmp 11) (.tmp 13) _ rfl ((w0.heap.size + 2)) 9 is0 _ 16 Try.underlying23 his hzs0 hzs1 hzs2 rfl g rfl bg.out hBg A3 t.ns.length c3 _ rfl hs1.out (by unfold maxLen; omega) (by omega) hsB ?_
      intro v8 w8 ho8 hb8 hat8
      have hv : OwnStrs w8 (w0.heap.size + 2) v8 t.ns := ho8
      refine hK.out _ _ ?_
      exact ⟨_, _, _, _, _, _, _, _, _, _, _, _, _, rfl, hF.out.up11 hv hb8⟩
    · simp only [List.getElem?_toArray, List.getElem?_cons_succ, List.getElem?_cons_zero, Option.some.injEq] at ho
      subst ho
      have h1 := hF.o3 (hall ⟨3, Ground.data⟩ (by simp) rfl)
      obtain ⟨B1, d1, e1⟩ := h1.shape
      subst e1
      have h2 := hF.o7 (hall ⟨7, Ground.data⟩ (by simp) rfl)
      obtain ⟨B2, d2, e2⟩ := h2.shape
      subst e2
      have h3 := hF.o11 (hall ⟨11, Ground.data⟩ (by simp) rfl)
      obtain ⟨B3, d3, e3⟩ := h3.shape
      subst e3
      have hv : LTng w' (w0.heap.size + 2) (.agg #[.slice B1 t.us.length d1, .slice B2 t.bs.length d2, .slice B3 t.ns.length d3]) t := ⟨_, _, _, rfl, h1, h2, h3⟩
      replace hF := Lib.hid hF
      clear hall
      go_simp
      refine hK.out _ _ ?_
      exact ⟨_, _, _, _, _, _, _, _, _, _, _, _, _, rfl, hF.out.up12 hv⟩
    · simp only [List.getElem?_toArray, List.getElem?_cons_succ, List.getElem?_cons_zero, Option.some.injEq] at ho
      subst ho
      have hv := hF.b12 (hall ⟨12, Ground.data⟩ (by simp) rfl)
      obtain ⟨B1, d1, B2, d2, B3, d3, e1⟩ := hv.shape
      subst e1
      obtain ⟨r0, r1, r2, f0, f1, f2⟩ := blk3 (hF.hz hun)
      have hlw := hF.low.size
      replace hF := Lib.hid hF
      clear hall
      go_simp
      refine hK.out _ _ ?_
      exact ⟨_, _, _, _, _, _, _, _, _, _, _, _, _, rfl, hF.out.up13 hsz hun hv (by omega)⟩
  · exact ⟨_, _, _, _, _, _, _, _, _, _, _, _, _, rfl, (fun h => by simp at h), (fun h => by simp at h), (fun h => by simp at h), (fun h => by simp at h), (fun h => by simp at h), (fun h => by simp at h), (fun h => by simp at h), (fun h => by simp at h), (fun h => by simp at h), (fun h => by simp at h), (fun h => by simp at h), (fun h => by simp at h), (fun h => by simp at h), (fun h => by simp at h), (fun _ => HZ.out.drew), HX.out.drew, hB.out.drew, by have := hsW.out; simpa using Nat.le_of_eq this.symm⟩
/-- What is known of the operations that have come up. -/
structure LDC (w0 : World) (d : Dk) (A1 : Option Addr) (c1 : Nat) (A2 : Option Addr) (c2 : Nat) (A3 : Option Addr) (c3 : Nat) (A5 : Option Addr) (c5 : Nat) (l : Array Bool) (w : World) (s3 s4 s5 s6 s7 s8 s9 s10 s11 s12 : Value) : Prop where
  f0 : l.getD 0 false = true → s3 = .pointer (some ⟨w0.heap.size, 0, none⟩)
  f1 : l.getD 1 false = true → s4 = .agg #[.slice A1 d.t.us.length c1, .slice A2 d.t.bs.length c2, .slice A3 d.t.ns.length c3]
  o2 : l.getD 2 false = true → LTng w (w0.heap.size + 2) s5 d.t
  f3 : l.getD 3 false = true → s6 = .pointer (some ⟨w0.heap.size, 3, none⟩)
  f4 : l.getD 4 false = true → s7 = .int .i64 d.now
  g5 : l.getD 5 false = true → ∃ g, s8 = .slice (some ⟨g, 0, none⟩) 0 0 ∧ Blk w g 3 #[] ∧ (w0.heap.size + 2) ≤ g
  f6 : l.getD 6 false = true → s9 = .pointer (some ⟨w0.heap.size, 4, none⟩)
  f7 : l.getD 7 false = true → s10 = .slice A5 d.past.length c5
  o8 : l.getD 8 false = true → OwnI w (w0.heap.size + 2) s11 d.past
  b9 : l.getD 9 false = true → LDk w (w0.heap.size + 2) s12 d
  hr : l.getD 10 false = true → ∃ u0 u1 u2 u3 u4, Blk w (w0.heap.size + 1) 28 #[u0, u1, u2, u3, u4] ∧ LDk w (w0.heap.size + 2) (.agg #[u0, u1, u2, u3, u4]) d
  pL : l.getD 2 false = true → l.getD 5 false = true → ∀ v1 v2 v3, s5 = .agg #[v1, v2, v3] → ∀ k, v2.ownBlock = some k → s8.ownBlock ≠ some k
  pA : l.getD 2 false = true → l.getD 8 false = true → ∀ v1 v2 v3, s5 = .agg #[v1, v2, v3] → ∀ k, v2.ownBlock = some k → s11.ownBlock ≠ some k
  hz : l.getD 10 false = false → Blk w (w0.heap.size + 1) 28 #[.slice none 0 0, .slice none 0 0, .slice none 0 0, .int .i64 0, .slice none 0 0]
  hx : Blk w (w0.heap.size) 28 #[.slice A1 d.t.us.length c1, .slice A2 d.t.bs.length c2, .slice A3 d.t.ns.length c3, .int .i64 d.now, .slice A5 d.past.length c5]
  low : Below w0.heap.size w0 w
  sz : (w0.heap.size + 2) ≤ w.heap.size
section
variable {w0 : World} {d : Dk} {A1 : Option Addr} {c1 : Nat} {A2 : Option Addr} {c2 : Nat} {A3 : Option Addr} {c3 : Nat} {A5 : Option Addr} {c5 : Nat} {l : Array Bool} {w w' : World} {s3 s4 s5 s6 s7 s8 s9 s10 s11 s12 v : Value}
theorem LDC.up0 (h : LDC w0 d A1 c1 A2 c2 A3 c3 A5 c5 l w s3 s4 s5 s6 s7 s8 s9 s10 s11 s12) (hv : v = .pointer (some ⟨w0.heap.size, 0, none⟩)) : LDC w0 d A1 c1 A2 c2 A3 c3 A5 c5 (l.setIfInBounds 0 true) w v s4 s5 s6 s7 s8 s9 s10 s11 s12 :=
  ⟨(fun _ => hv), (fun h' => h.f1 (listed_set h' (by decide))), (fun h' => h.o2 (listed_set h' (by decide))), (fun h' => h.f3 (listed_set h' (by decide))), (fun h' => h.f4 (listed_set h' (by decide))), (fun h' => h.g5 (listed_set h' (by decide))), (fun h' => h.f6 (listed_set h' (by decide))), (fun h' => h.f7 (listed_set h' (by decide))), (fun h' => h.o8 (listed_set h' (by decide))), (fun h' => h.b9 (listed_set h' (by decide))), (fun h' => h.hr (listed_set h' (by decide))), (fun h1 h2 => h.pL (listed_set h1 (by decide)) (listed_set h2 (by decide))), (fun h1 h2 => h.pA (listed_set h1 (by decide)) (listed_set h2 (by decide))), (fun h' => h.hz (by rwa [listed_same (by decide)] at h')), h.hx, h.low, h.sz⟩
theorem LDC.up1 (h : LDC w0 d A1 c1 A2 c2 A3 c3 A5 c5 l w s3 s4 s5 s6 s7 s8 s9 s10 s11 s12) (hv : v = .agg #[.slice A1 d.t.us.length c1, .slice A2 d.t.bs.length c2, .slice A3 d.t.ns.length c3]) : LDC w0 d A1 c1 A2 c2 A3 c3 A5 c5 (l.setIfInBounds 1 true) w s3 v s5 s6 s7 s8 s9 s10 s11 s12 :=
  ⟨(fun h' => h.f0 (listed_set h' (by decide))), (fun _ => hv), (fun h' => h.o2 (listed_set h' (by decide))), (fun h' => h.f3 (listed_set h' (by decide))), (fun h' => h.f4 (listed_set h' (by decide))), (fun h' => h.g5 (listed_set h' (by decide))), (fun h' => h.f6 (listed_set h' (by decide))), (fun h' => h.f7 (listed_set h' (by decide))), (fun h' => h.o8 (listed_set h' (by decide))), (fun h' => h.b9 (listed_set h' (by decide))), (fun h' => h.hr (listed_set h' (by decide))), (fun h1 h2 => h.pL (listed_set h1 (by decide)) (listed_set h2 (by decide))), (fun h1 h2 => h.pA (listed_set h1 (by decide)) (listed_set h2 (by decide))), (fun h' => h.hz (by rwa [listed_same (by decide)] at h')), h.hx, h.low, h.sz⟩
theorem LDC.up2 (h : LDC w0 d A1 c1 A2 c2 A3 c3 A5 c5 l w s3 s4 s5 s6 s7 s8 s9 s10 s11 s12) (hv : LTng w' (w0.heap.size + 2) v d.t) (hfr : ∀ v1 v2 v3, v = .agg #[v1, v2, v3] → ∀ k, v2.ownBlock = some k → w.heap.size ≤ k) (hb : Below w.heap.size w w') : LDC w0 d A1 c1 A2 c2 A3 c3 A5 c5 (l.setIfInBounds 2 true) w' s3 s4 v s6 s7 s8 s9 s10 s11 s12 :=
  ⟨(fun h' => h.f0 (listed_set h' (by decide))), (fun h' => h.f1 (listed_set h' (by decide))), (fun _ => hv), (fun h' => h.f3 (listed_set h' (by decide))), (fun h' => h.f4 (listed_set h' (by decide))), (fun h' => (let ⟨g, e, b, hg⟩ := h.g5 (listed_set h' (by decide)); ⟨g, e, b.below hb b.lt, hg⟩)), (fun h' => h.f6 (listed_set h' (by decide))), (fun h' => h.f7 (listed_set h' (by decide))), (fun h' => (h.o8 (listed_set h' (by decide))).below hb (Nat.le_refl _)), (fun h' => (h.b9 (listed_set h' (by decide))).below hb (Nat.le_refl _)), (fun h' => (let ⟨u0, u1, u2, u3, u4, b, hd⟩ := h.hr (listed_set h' (by decide)); ⟨u0, u1, u2, u3, u4, b.below hb b.lt, hd.below hb (Nat.le_refl _)⟩)), (fun _ h2 v1 v2 v3 e k hk he => by obtain ⟨g, e2, b, -⟩ := h.g5 (listed_set h2 (by decide)); rw [e2] at he; have := b.lt; have := hfr v1 v2 v3 e k hk; simp [Value.ownBlock] at he; omega), (fun _ h2 v1 v2 v3 e k hk he => by have h3 := (World.ownsRow.lt (h.o8 (listed_set h2 (by decide))) k he).2; have := hfr v1 v2 v3 e k hk; omega), (fun h' => let b := h.hz (by rwa [listed_same (by decide)] at h'); b.below hb b.lt), h.hx.below hb h.hx.lt, h.low.trans (hb.mono h.low.size), Nat.le_trans h.sz hb.size⟩
theorem LDC.up3 (h : LDC w0 d A1 c1 A2 c2 A3 c3 A5 c5 l w s3 s4 s5 s6 s7 s8 s9 s10 s11 s12) (hv : v = .pointer (some ⟨w0.heap.size, 3, none⟩)) : LDC w0 d A1 c1 A2 c2 A3 c3 A5 c5 (l.setIfInBounds 3 true) w s3 s4 s5 v s7 s8 s9 s10 s11 s12 :=
  ⟨(fun h' => h.f0 (listed_set h' (by decide))), (fun h' => h.f1 (listed_set h' (by decide))), (fun h' => h.o2 (listed_set h' (by decide))), (fun _ => hv), (fun h' => h.f4 (listed_set h' (by decide))), (fun h' => h.g5 (listed_set h' (by decide))), (fun h' => h.f6 (listed_set h' (by decide))), (fun h' => h.f7 (listed_set h' (by decide))), (fun h' => h.o8 (listed_set h' (by decide))), (fun h' => h.b9 (listed_set h' (by decide))), (fun h' => h.hr (listed_set h' (by decide))), (fun h1 h2 => h.pL (listed_set h1 (by decide)) (listed_set h2 (by decide))), (fun h1 h2 => h.pA (listed_set h1 (by decide)) (listed_set h2 (by decide))), (fun h' => h.hz (by rwa [listed_same (by decide)] at h')), h.hx, h.low, h.sz⟩
theorem LDC.up4 (h : LDC w0 d A1 c1 A2 c2 A3 c3 A5 c5 l w s3 s4 s5 s6 s7 s8 s9 s10 s11 s12) (hv : v = .int .i64 d.now) : LDC w0 d A1 c1 A2 c2 A3 c3 A5 c5 (l.setIfInBounds 4 true) w s3 s4 s5 s6 v s8 s9 s10 s11 s12 :=
  ⟨(fun h' => h.f0 (listed_set h' (by decide))), (fun h' => h.f1 (listed_set h' (by decide))), (fun h' => h.o2 (listed_set h' (by decide))), (fun h' => h.f3 (listed_set h' (by decide))), (fun _ => hv), (fun h' => h.g5 (listed_set h' (by decide))), (fun h' => h.f6 (listed_set h' (by decide))), (fun h' => h.f7 (listed_set h' (by decide))), (fun h' => h.o8 (listed_set h' (by decide))), (fun h' => h.b9 (listed_set h' (by decide))), (fun h' => h.hr (listed_set h' (by decide))), (fun h1 h2 => h.pL (listed_set h1 (by decide)) (listed_set h2 (by decide))), (fun h1 h2 => h.pA (listed_set h1 (by decide)) (listed_set h2 (by decide))), (fun h' => h.hz (by rwa [listed_same (by decide)] at h')), h.hx, h.low, h.sz⟩
theorem LDC.up5 (h : LDC w0 d A1 c1 A2 c2 A3 c3 A5 c5 l w s3 s4 s5 s6 s7 s8 s9 s10 s11 s12)  : LDC w0 d A1 c1 A2 c2 A3 c3 A5 c5 (l.setIfInBounds 5 true) (w.alloc (.cells #[] 3)) s3 s4 s5 s6 s7 (.slice (some ⟨w.heap.size, 0, none⟩) 0 0) s9 s10 s11 s12 := by
  have hb := (Below.refl w.heap.size w).alloc (Nat.le_refl _) (.cells #[] 3)
  exact ⟨(fun h' => h.f0 (listed_set h' (by decide))), (fun h' => h.f1 (listed_set h' (by decide))), (fun h' => (h.o2 (listed_set h' (by decide))).below hb (Nat.le_refl _)), (fun h' => h.f3 (listed_set h' (by decide))), (fun h' => h.f4 (listed_set h' (by decide))), (fun _ => ⟨w.heap.size, rfl, Blk.new _ _ _, h.sz⟩), (fun h' => h.f6 (listed_set h' (by decide))), (fun h' => h.f7 (listed_set h' (by decide))), (fun h' => (h.o8 (listed_set h' (by decide))).below hb (Nat.le_refl _)), (fun h' => (h.b9 (listed_set h' (by decide))).below hb (Nat.le_refl _)), (fun h' => (let ⟨u0, u1, u2, u3, u4, b, hd⟩ := h.hr (listed_set h' (by decide)); ⟨u0, u1, u2, u3, u4, b.below hb b.lt, hd.below hb (Nat.le_refl _)⟩)), (fun h1 _ v1 v2 v3 e k hk he => by obtain ⟨w1, w2, w3, e2, -, o2, -⟩ := (h.o2 (listed_set h1 (by decide))).ex; rw [e] at e2; cases e2; have := (World.ownsRow.lt o2 k hk).2; simp [Value.ownBlock] at he; omega), (fun h1 h2 => h.pA (listed_set h1 (by decide)) (listed_set h2 (by decide))), (fun h' => let b := h.hz (by rwa [listed_same (by decide)] at h'); b.below hb b.lt), h.hx.below hb h.hx.lt, h.low.trans (hb.mono h.low.size), Nat.le_trans h.sz hb.size⟩
theorem LDC.up6 (h : LDC w0 d A1 c1 A2 c2 A3 c3 A5 c5 l w s3 s4 s5 s6 s7 s8 s9 s10 s11 s12) (hv : v = .pointer (some ⟨w0.heap.size, 4, none⟩)) : LDC w0 d A1 c1 A2 c2 A3 c3 A5 c5 (l.setIfInBounds 6 true) w s3 s4 s5 s6 s7 s8 v s10 s11 s12 :=
  ⟨(fun h' => h.f0 (listed_set h' (by decide))), (fun h' => h.f1 (listed_set h' (by decide))), (fun h' => h.o2 (listed_set h' (by decide))), (fun h' => h.f3 (listed_set h' (by decide))), (fun h' => h.f4 (listed_set h' (by decide))), (fun h' => h.g5 (listed_set h' (by decide))), (fun _ => hv), (fun h' => h.f7 (listed_set h' (by decide))), (fun h' => h.o8 (listed_set h' (by decide))), (fun h' => h.b9 (listed_set h' (by decide))), (fun h' => h.hr (listed_set h' (by decide))), (fun h1 h2 => h.pL (listed_set h1 (by decide)) (listed_set h2 (by decide))), (fun h1 h2 => h.pA (listed_set h1 (by decide)) (listed_set h2 (by decide))), (fun h' => h.hz (by rwa [listed_same (by decide)] at h')), h.hx, h.low, h.sz⟩
theorem LDC.up7 (h : LDC w0 d A1 c1 A2 c2 A3 c3 A5 c5 l w s3 s4 s5 s6 s7 s8 s9 s10 s11 s12) (hv : v = .slice A5 d.past.length c5) : LDC w0 d A1 c1 A2 c2 A3 c3 A5 c5 (l.setIfInBounds 7 true) w s3 s4 s5 s6 s7 s8 s9 v s11 s12 :=
  ⟨(fun h' => h.f0 (listed_set h' (by decide))), (fun h' => h.f1 (listed_set h' (by decide))), (fun h' => h.o2 (listed_set h' (by decide))), (fun h' => h.f3 (listed_set h' (by decide))), (fun h' => h.f4 (listed_set h' (by decide))), (fun h' => h.g5 (listed_set h' (by decide))), (fun h' => h.f6 (listed_set h' (by decide))), (fun _ => hv), (fun h' => h.o8 (listed_set h' (by decide))), (fun h' => h.b9 (listed_set h' (by decide))), (fun h' => h.hr (listed_set h' (by decide))), (fun h1 h2 => h.pL (listed_set h1 (by decide)) (listed_set h2 (by decide))), (fun h1 h2 => h.pA (listed_set h1 (by decide)) (listed_set h2 (by decide))), (fun h' => h.hz (by rwa [listed_same (by decide)] at h')), h.hx, h.low, h.sz⟩
theorem LDC.up8 (h : LDC w0 d A1 c1 A2 c2 A3 c3 A5 c5 l w s3 s4 s5 s6 s7 s8 s9 s10 s11 s12) (hv : OwnI w' (w0.heap.size + 2) v d.past) (hat : ∀ v1 v2 v3, s5 = .agg #[v1, v2, v3] → ∀ k, l.getD 2 false = true → v2.ownBlock = some k → v.ownBlock ≠ some k) (hb : Below w.heap.size w w') : LDC w0 d A1 c1 A2 c2 A3 c3 A5 c5 (l.setIfInBounds 8 true) w' s3 s4 s5 s6 s7 s8 s9 s10 v s12 :=
  ⟨(fun h' => h.f0 (listed_set h' (by decide))), (fun h' => h.f1 (listed_set h' (by decide))), (fun h' => (h.o2 (listed_set h' (by decide))).below hb (Nat.le_refl _)), (fun h' => h.f3 (listed_set h' (by decide))), (fun h' => h.f4 (listed_set h' (by decide))), (fun h' => (let ⟨g, e, b, hg⟩ := h.g5 (listed_set h' (by decide)); ⟨g, e, b.below hb b.lt, hg⟩)), (fun h' => h.f6 (listed_set h' (by decide))), (fun h' => h.f7 (listed_set h' (by decide))), (fun _ => hv), (fun h' => (h.b9 (listed_set h' (by decide))).below hb (Nat.le_refl _)), (fun h' => (let ⟨u0, u1, u2, u3, u4, b, hd⟩ := h.hr (listed_set h' (by decide)); ⟨u0, u1, u2, u3, u4, b.below hb b.lt, hd.below hb (Nat.le_refl _)⟩)), (fun h1 h2 => h.pL (listed_set h1 (by decide)) (listed_set h2 (by decide))), (fun h1 _ v1 v2 v3 e k hk he => hat v1 v2 v3 e k (listed_set h1 (by decide)) hk he), (fun h' => let b := h.hz (by rwa [listed_same (by decide)] at h'); b.below hb b.lt), h.hx.below hb h.hx.lt, h.low.trans (hb.mono h.low.size), Nat.le_trans h.sz hb.size⟩
theorem LDC.up9 (h : LDC w0 d A1 c1 A2 c2 A3 c3 A5 c5 l w s3 s4 s5 s6 s7 s8 s9 s10 s11 s12) (hv : LDk w (w0.heap.size + 2) v d) : LDC w0 d A1 c1 A2 c2 A3 c3 A5 c5 (l.setIfInBounds 9 true) w s3 s4 s5 s6 s7 s8 s9 s10 s11 v :=
  ⟨(fun h' => h.f0 (listed_set h' (by decide))), (fun h' => h.f1 (listed_set h' (by decide))), (fun h' => h.o2 (listed_set h' (by decide))), (fun h' => h.f3 (listed_set h' (by decide))), (fun h' => h.f4 (listed_set h' (by decide))), (fun h' => h.g5 (listed_set h' (by decide))), (fun h' => h.f6 (listed_set h' (by decide))), (fun h' => h.f7 (listed_set h' (by decide))), (fun h' => h.o8 (listed_set h' (by decide))), (fun _ => hv), (fun h' => h.hr (listed_set h' (by decide))), (fun h1 h2 => h.pL (listed_set h1 (by decide)) (listed_set h2 (by decide))), (fun h1 h2 => h.pA (listed_set h1 (by decide)) (listed_set h2 (by decide))), (fun h' => h.hz (by rwa [listed_same (by decide)] at h')), h.hx, h.low, h.sz⟩
theorem LDC.up10 (h : LDC w0 d A1 c1 A2 c2 A3 c3 A5 c5 l w s3 s4 s5 s6 s7 s8 s9 s10 s11 s12) {u0 u1 u2 u3 u4 : Value} (hsz : l.size = 11) (hun : l.getD 10 false = false) (hv : LDk w (w0.heap.size + 2) (.agg #[u0, u1, u2, u3, u4]) d) (hxq : w0.heap.size ≠ (w0.heap.size + 1)) : LDC w0 d A1 c1 A2 c2 A3 c3 A5 c5 (l.setIfInBounds 10 true) (((((w.setCell ⟨(w0.heap.size + 1), 0, none⟩ u0).setCell ⟨(w0.heap.size + 1), 1, none⟩ u1).setCell ⟨(w0.heap.size + 1), 2, none⟩ u2).setCell ⟨(w0.heap.size + 1), 3, none⟩ u3).setCell ⟨(w0.heap.size + 1), 4, none⟩ u4) s3 s4 s5 s6 s7 s8 s9 s10 s11 s12 := by
  have HB : Blk (((((w.setCell ⟨(w0.heap.size + 1), 0, none⟩ u0).setCell ⟨(w0.heap.size + 1), 1, none⟩ u1).setCell ⟨(w0.heap.size + 1), 2, none⟩ u2).setCell ⟨(w0.heap.size + 1), 3, none⟩ u3).setCell ⟨(w0.heap.size + 1), 4, none⟩ u4) (w0.heap.size + 1) 28 #[u0, u1, u2, u3, u4] := by
    have := (Blk.set_ (Blk.set_ (Blk.set_ (Blk.set_ (Blk.set_ (h.hz hun) 0 u0) 1 u1) 2 u2) 3 u3) 4 u4)
    simpa using this
  have HS : ∀ {B : Nat} {v : Value} {xs : List ByteArray}, OwnStrs w B v xs → OwnStrs (((((w.setCell ⟨(w0.heap.size + 1), 0, none⟩ u0).setCell ⟨(w0.heap.size + 1), 1, none⟩ u1).setCell ⟨(w0.heap.size + 1), 2, none⟩ u2).setCell ⟨(w0.heap.size + 1), 3, none⟩ u3).setCell ⟨(w0.heap.size + 1), 4, none⟩ u4) B v xs := fun {B v xs} ho => by
    have m := own_blk_ne ho (h.hz hun) (by decide)
    exact (own_set (own_set (own_set (own_set (own_set ho m) m) m) m) m)
  have HI : ∀ {B : Nat} {v : Value} {xs : List Int}, OwnI w B v xs → OwnI (((((w.setCell ⟨(w0.heap.size + 1), 0, none⟩ u0).setCell ⟨(w0.heap.size + 1), 1, none⟩ u1).setCell ⟨(w0.heap.size + 1), 2, none⟩ u2).setCell ⟨(w0.heap.size + 1), 3, none⟩ u3).setCell ⟨(w0.heap.size + 1), 4, none⟩ u4) B v xs := fun {B v xs} ho => by
    have m := own_blk_ne ho (h.hz hun) (by decide)
    exact (own_set (own_set (own_set (own_set (own_set ho m) m) m) m) m)
  have HRS := @HS
  have HRI := @HI
  have HRT : ∀ {B : Nat} {v : Value} {t : Tg}, LTng w B v t → LTng (((((w.setCell ⟨(w0.heap.size + 1), 0, none⟩ u0).setCell ⟨(w0.heap.size + 1), 1, none⟩ u1).setCell ⟨(w0.heap.size + 1), 2, none⟩ u2).setCell ⟨(w0.heap.size + 1), 3, none⟩ u3).setCell ⟨(w0.heap.size + 1), 4, none⟩ u4) B v t := fun {B v t} ho => by
    obtain ⟨v1, v2, v3, e, o1, o2, o3⟩ := ho.ex
    exact ⟨v1, v2, v3, e, HS o1, HI o2, HS o3⟩
  have HRB : ∀ {v : Value}, LDk w (w0.heap.size + 2) v d → LDk (((((w.setCell ⟨(w0.heap.size + 1), 0, none⟩ u0).setCell ⟨(w0.heap.size + 1), 1, none⟩ u1).setCell ⟨(w0.heap.size + 1), 2, none⟩ u2).setCell ⟨(w0.heap.size + 1), 3, none⟩ u3).setCell ⟨(w0.heap.size + 1), 4, none⟩ u4) (w0.heap.size + 2) v d := fun {v} ho => by
    obtain ⟨v1, v2, v3, v5, e, h1, h2, h3⟩ := ho.ex
    exact ⟨v1, v2, v3, v5, e, HRT h1, HI h2, h3⟩
  have HL : ∀ {g : Nat} {t : TypeId}, Blk w g t #[] → t ≠ 28 → Blk (((((w.setCell ⟨(w0.heap.size + 1), 0, none⟩ u0).setCell ⟨(w0.heap.size + 1), 1, none⟩ u1).setCell ⟨(w0.heap.size + 1), 2, none⟩ u2).setCell ⟨(w0.heap.size + 1), 3, none⟩ u3).setCell ⟨(w0.heap.size + 1), 4, none⟩ u4) g t #[] := fun {g t} b hne => by
    have m : g ≠ (w0.heap.size + 1) := fun e => by
      subst e
      have e1 := b
      have e2 := (h.hz hun)
      unfold Blk at e1 e2
      rw [e1] at e2
      injection e2 with e2
      injection e2 with _ e3
      exact hne e3
    exact (Blk.far (Blk.far (Blk.far (Blk.far (Blk.far b (p := ⟨(w0.heap.size + 1), 0, none⟩) m u0) (p := ⟨(w0.heap.size + 1), 1, none⟩) m u1) (p := ⟨(w0.heap.size + 1), 2, none⟩) m u2) (p := ⟨(w0.heap.size + 1), 3, none⟩) m u3) (p := ⟨(w0.heap.size + 1), 4, none⟩) m u4)
  have HX : Blk (((((w.setCell ⟨(w0.heap.size + 1), 0, none⟩ u0).setCell ⟨(w0.heap.size + 1), 1, none⟩ u1).setCell ⟨(w0.heap.size + 1), 2, none⟩ u2).setCell ⟨(w0.heap.size + 1), 3, none⟩ u3).setCell ⟨(w0.heap.size + 1), 4, none⟩ u4) (w0.heap.size) 28 #[.slice A1 d.t.us.length c1, .slice A2 d.t.bs.length c2, .slice A3 d.t.ns.length c3, .int .i64 d.now, .slice A5 d.past.length c5] := (Blk.far (Blk.far (Blk.far (Blk.far (Blk.far h.hx (p := ⟨(w0.heap.size + 1), 0, none⟩) hxq u0) (p := ⟨(w0.heap.size + 1), 1, none⟩) hxq u1) (p := ⟨(w0.heap.size + 1), 2, none⟩) hxq u2) (p := ⟨(w0.heap.size + 1), 3, none⟩) hxq u3) (p := ⟨(w0.heap.size + 1), 4, none⟩) hxq u4)
  have HLow : Below w0.heap.size w0 (((((w.setCell ⟨(w0.heap.size + 1), 0, none⟩ u0).setCell ⟨(w0.heap.size + 1), 1, none⟩ u1).setCell ⟨(w0.heap.size + 1), 2, none⟩ u2).setCell ⟨(w0.heap.size + 1), 3, none⟩ u3).setCell ⟨(w0.heap.size + 1), 4, none⟩ u4) := (Below.setCell (Below.setCell (Below.setCell (Below.setCell (Below.setCell h.low (p := ⟨(w0.heap.size + 1), 0, none⟩) (by simp) u0) (p := ⟨(w0.heap.size + 1), 1, none⟩) (by simp) u1) (p := ⟨(w0.heap.size + 1), 2, none⟩) (by simp) u2) (p := ⟨(w0.heap.size + 1), 3, none⟩) (by simp) u3) (p := ⟨(w0.heap.size + 1), 4, none⟩) (by simp) u4)
  have HV := HRB hv
  exact ⟨(fun h' => h.f0 (listed_set h' (by decide))), (fun h' => h.f1 (listed_set h' (by decide))), (fun h' => HRT (h.o2 (listed_set h' (by decide)))), (fun h' => h.f3 (listed_set h' (by decide))), (fun h' => h.f4 (listed_set h' (by decide))), (fun h' => let ⟨g, e, b, hg⟩ := h.g5 (listed_set h' (by decide)); ⟨g, e, HL b (by decide), hg⟩), (fun h' => h.f6 (listed_set h' (by decide))), (fun h' => h.f7 (listed_set h' (by decide))), (fun h' => HRI (h.o8 (listed_set h' (by decide)))), (fun h' => HRB (h.b9 (listed_set h' (by decide)))), (fun _ => ⟨_, _, _, _, _, HB, HV⟩), (fun h1 h2 => h.pL (listed_set h1 (by decide)) (listed_set h2 (by decide))), (fun h1 h2 => h.pA (listed_set h1 (by decide)) (listed_set h2 (by decide))), (fun h' => by rw [listed_at (by omega)] at h'; cases h'), HX, HLow, by simpa using h.sz⟩
end

def RetLD (w : World) (d : Dk) (e : Ending) (w' : World) : Prop := ∃ v, e = .returned v ∧ LDk w' w.heap.size v d ∧ Below w.heap.size w w'
set_option maxRecDepth 100000 in
set_option maxHeartbeats 8000000 in
theorem specCopy_any (v : Value) (d : Dk) (w0 : World) (h : Dsk w0 v d) (hf : d.Fine) :
    Calls Try.prog 31 #[v] w0 (RetLD w0 d) := by
  obtain ⟨is0, his, hzs0, hzs1, hzs2⟩ := info_parts str_info
  obtain ⟨ii0, hii, hzi0, hzi1, hzi2⟩ := info_parts int_info0
  obtain ⟨A1, c1, A2, c2, A3, c3, A5, c5, rfl, h1, h2, h3, h5⟩ := h.ex
  have hp := hf.past
  have hft := hf.t
  have HS5 := Lib.hid (fun W (hb : Below w0.heap.size w0 W) => (h5.below hb (Nat.le_refl _)).src)
  have KT := Lib.hid (fun W (hb : Below w0.heap.size w0 W) => specTongue_any (.agg #[.slice A1 d.t.us.length c1, .slice A2 d.t.bs.length c2, .slice A3 d.t.ns.length c3]) d.t W ⟨A1, c1, A2, c2, A3, c3, rfl, h1.below hb (Nat.le_refl _), h2.below hb (Nat.le_refl _), h3.below hb (Nat.le_refl _)⟩ hft)
  have hB := ((Below.refl w0.heap.size w0).alloc (Nat.le_refl _) (.cells #[.slice A1 d.t.us.length c1, .slice A2 d.t.bs.length c2, .slice A3 d.t.ns.length c3, .int .i64 d.now, .slice A5 d.past.length c5] 28)).alloc (by simp) (.cells #[.slice none 0 0, .slice none 0 0, .slice none 0 0, .int .i64 0, .slice none 0 0] 28)
  have HX := (Blk.new w0 28 #[.slice A1 d.t.us.length c1, .slice A2 d.t.bs.length c2, .slice A3 d.t.ns.length c3, .int .i64 d.now, .slice A5 d.past.length c5]).alloc (.cells #[.slice none 0 0, .slice none 0 0, .slice none 0 0, .int .i64 0, .slice none 0 0] 28)
  have HZ : Blk ((w0.alloc (.cells #[.slice A1 d.t.us.length c1, .slice A2 d.t.bs.length c2, .slice A3 d.t.ns.length c3, .int .i64 d.now, .slice A5 d.past.length c5] 28)).alloc (.cells #[.slice none 0 0, .slice none 0 0, .slice none 0 0, .int .i64 0, .slice none 0 0] 28)) (w0.heap.size + 1) 28 #[.slice none 0 0, .slice none 0 0, .slice none 0 0, .int .i64 0, .slice none 0 0] := blk_new_at _ (by simp)
  have hsW : ((w0.alloc (.cells #[.slice A1 d.t.us.length c1, .slice A2 d.t.bs.length c2, .slice A3 d.t.ns.length c3, .int .i64 d.now, .slice A5 d.past.length c5] 28)).alloc (.cells #[.slice none 0 0, .slice none 0 0, .slice none 0 0, .int .i64 0, .slice none 0 0] 28)).heap.size = w0.heap.size + 2 := by simp
  replace hB := Lib.hid hB
  replace HX := Lib.hid HX
  replace HZ := Lib.hid HZ
  replace hsW := Lib.hid hsW
  clear h h1 h2 h3 h5 hf hft
  go_enter Try.func31, Try.ntmps31
  go_upto_region 1 with (fail)
  generalize (w0.alloc (.cells #[.slice A1 d.t.us.length c1, .slice A2 d.t.bs.length c2, .slice A3 d.t.ns.length c3, .int .i64 d.now, .slice A5 d.past.length c5] 28)).alloc (.cells #[.slice none 0 0, .slice none 0 0, .slice none 0 0, .int .i64 0, .slice none 0 0] 28) = W at *
  refine wp_region_any (by kernel_rfl) ?_
  refine wpAny_inv (Inv := fun l a w' => ∃ (s3 s4 s5 s6 s7 s8 s9 s10 s11 s12 : Value), a = ⟨#[.agg #[.slice A1 d.t.us.length c1, .slice A2 d.t.bs.length c2, .slice A3 d.t.ns.length c3, .int .i64 d.now, .slice A5 d.past.length c5], .pointer (some ⟨w0.heap.size, 0, none⟩), .pointer (some ⟨w0.heap.size + 1, 0, none⟩), s3, s4, s5, s6, s7, s8, s9, s10, s11, s12], []⟩ ∧ LDC w0 d A1 c1 A2 c2 A3 c3 A5 c5 l w' s3 s4 s5 s6 s7 s8 s9 s10 s11 s12) (ord_spec (by kernel_rfl)) ?_ ?_ _ _ _ _ rfl (by decide) ?_
  · rintro l a w' ⟨s3, s4, s5, s6, s7, s8, s9, s10, s11, s12, rfl, hF⟩ hsz hl
    have hl' : ∀ j, j < 11 → l.getD j false = true := hl
    obtain ⟨u0, u1, u2, u3, u4, HB, HV⟩ := hF.hr (hl' 10 (by decide))
    obtain ⟨r0, r1, r2, r3, r4⟩ := (blk5 HB).1
    have HR : RetLD w0 d (.returned (.agg #[u0, u1, u2, u3, u4])) w' := ⟨_, rfl, HV.mono (by omega), hF.low⟩
    replace HR := Lib.hid HR
    clear hF hl hl' hsz HB HV
    go_wp2
    refine bodyPost_ret (v := .agg #[u0, u1, u2, u3, u4]) (by simp [results, Try.results31, go_sem, r0, r1, r2, r3, r4]) rfl ?_
    exact HR.out
  · rintro l a w' ⟨s3, s4, s5, s6, s7, s8, s9, s10, s11, s12, rfl, hF⟩ hsz i o hlt ho hun hall
    have hlt' : i < 11 := hlt
    refine wpOp_step ho (fun K' hK => ?_)
    replace hK := Lib.hid hK
    obtain rfl | rfl | rfl | rfl | rfl | rfl | rfl | rfl | rfl | rfl | rfl : i = 0 ∨ i = 1 ∨ i = 2 ∨ i = 3 ∨ i = 4 ∨ i = 5 ∨ i = 6 ∨ i = 7 ∨ i = 8 ∨ i = 9 ∨ i = 10 := by omega
    · simp only [List.getElem?_toArray, List.getElem?_cons_zero, Option.some.injEq] at ho
      subst ho
      replace hF := Lib.hid hF
      clear hall
      go_simp
      refine hK.out _ _ ?_
      exact ⟨_, _, _, _, _, _, _, _, _, _, rfl, hF.out.up0 rfl⟩
    · simp only [List.getElem?_toArray, List.getElem?_cons_succ, List.getElem?_cons_zero, Option.some.injEq] at ho
      subst ho
      have e0 := hF.f0 (hall ⟨0, Ground.data⟩ (by simp) rfl)
      subst e0
      obtain ⟨x0, x1, x2, x3, x4⟩ := (blk5 hF.hx).1
      replace hF := Lib.hid hF
      clear hall
      go_simp
      refine hK.out _ _ ?_
      exact ⟨_, _, _, _, _, _, _, _, _, _, rfl, hF.out.up1 rfl⟩
    · simp only [List.getElem?_toArray, List.getElem?_cons_succ, List.getElem?_cons_zero, Option.some.injEq] at ho
      subst ho
      have e1 := hF.f1 (hall ⟨1, Ground.data⟩ (by simp) rfl)
      subst e1
      have hlow := hF.low
      have hsB := hF.sz
      have K := Lib.hid (KT.out w' hlow)
      clear hlow
      replace hF := Lib.hid hF
      clear hall
      go_simp
      go_at_call 59
      refine K.out.mono ?_
      rintro e V ⟨v, rfl, ho', hb'⟩
      obtain ⟨B1, d1, B1', d1', B1'', d1'', rfl⟩ := ho'.shape
      have hv := ho'.mono hsB
      go_simp
      refine hK.out _ _ ?_
      exact ⟨_, _, _, _, _, _, _, _, _, _, rfl, hF.out.up2 hv (fun v1 v2 v3 e k hk => by cases e; obtain ⟨w1, w2, w3, e2, -, o2, -⟩ := ho'.ex; cases e2; exact (World.ownsRow.lt o2 k hk).1) hb'⟩
    · simp only [List.getElem?_toArray, List.getElem?_cons_succ, List.getElem?_cons_zero, Option.some.injEq] at ho
      subst ho
      replace hF := Lib.hid hF
      clear hall
      go_simp
      refine hK.out _ _ ?_
      exact ⟨_, _, _, _, _, _, _, _, _, _, rfl, hF.out.up3 rfl⟩
    · simp only [List.getElem?_toArray, List.getElem?_cons_succ, List.getElem?_cons_zero, Option.some.injEq] at ho
      subst ho
      have e3 := hF.f3 (hall ⟨3, Ground.data⟩ (by simp) rfl)
      subst e3
      obtain ⟨x0, x1, x2, x3, x4⟩ := (blk5 hF.hx).1
      replace hF := Lib.hid hF
      clear hall
      go_simp
      refine hK.out _ _ ?_
      exact ⟨_, _, _, _, _, _, _, _, _, _, rfl, hF.out.up4 rfl⟩
    · simp only [List.getElem?_toArray, List.getElem?_cons_succ, List.getElem?_cons_zero, Option.some.injEq] at ho
      subst ho
      replace hF := Lib.hid hF
      clear hall
      go_simp
      refine hK.out _ _ ?_
      exact ⟨_, _, _, _, _, _, _, _, _, _, rfl, hF.out.up5⟩
    · simp only [List.getElem?_toArray, List.getElem?_cons_succ, List.getElem?_cons_zero, Option.some.injEq] at ho
      subst ho
      replace hF := Lib.hid hF
      clear hall
      go_simp
      refine hK.out _ _ ?_
      exact ⟨_, _, _, _, _, _, _, _, _, _, rfl, hF.out.up6 rfl⟩
    · simp only [List.getElem?_toArray, List.getElem?_cons_succ, List.getElem?_cons_zero, Option.some.injEq] at ho
      subst ho
      have e6 := hF.f6 (hall ⟨6, Ground.data⟩ (by simp) rfl)
      subst e6
      obtain ⟨x0, x1, x2, x3, x4⟩ := (blk5 hF.hx).1
      replace hF := Lib.hid hF
      clear hall
      go_simp
      refine hK.out _ _ ?_
      exact ⟨_, _, _, _, _, _, _, _, _, _, rfl, hF.out.up7 rfl⟩
    · simp only [List.getElem?_toArray, List.getElem?_cons_succ, List.getElem?_cons_zero, Option.some.injEq] at ho
      subst ho
      have e7 := hF.f7 (hall ⟨7, Ground.data⟩ (by simp) rfl)
      subst e7
      obtain ⟨g, eg, bg, hBg⟩ := hF.g5 (hall ⟨5, Ground.data⟩ (by simp) rfl)
      have h5l := (hall ⟨5, Ground.data⟩ (by simp) rfl)
      subst eg
      have hsB := hF.sz
      have hs1 := HS5.out w' hF.low
      replace hF := Lib.hid hF
      replace hs1 := Lib.hid hs1
      replace bg := Lib.hid bg
      clear hall
      refine step_app0 _ rfl (.tmp 8) (.tmp 10) _ rfl ((w0.heap.size + 2)) 3 ii0 _ 8 Try.underlying24 hii hzi0 hzi1 hzi2 rfl g rfl bg.out hBg A5 d.past.length c5 _ rfl hs1.out (by unfold maxLen; omega) (by omega) hsB ?_
      intro v8 w8 ho8 hb8 hat8
      have hv : OwnI w8 (w0.heap.size + 2) v8 d.past := ho8
      refine hK.out _ _ ?_
      exact ⟨_, _, _, _, _, _, _, _, _, _, rfl, hF.out.up8 hv (fun v1 v2 v3 e k h2 hk he => hat8.elim (fun h8 => hF.out.pL h2 h5l v1 v2 v3 e k hk (by rw [h8] at he; exact he)) (fun h8 => by rw [h8] at he; obtain ⟨w1, w2, w3, e2, -, o2, -⟩ := (hF.out.o2 h2).ex; rw [e] at e2; cases e2; have := (World.ownsRow.lt o2 k hk).2; injection he with he; omega)) hb8⟩
    · simp only [List.getElem?_toArray, List.getElem?_cons_succ, List.getElem?_cons_zero, Option.some.injEq] at ho
      subst ho
      have h1 := hF.o2 (hall ⟨2, Ground.data⟩ (by simp) rfl)
      obtain ⟨B1, d1, B1', d1', B1'', d1'', e1⟩ := h1.shape
      subst e1
      have h2 := hF.o8 (hall ⟨8, Ground.data⟩ (by simp) rfl)
      obtain ⟨B2, d2, e2⟩ := h2.shape
      subst e2
      have e4 := hF.f4 (hall ⟨4, Ground.data⟩ (by simp) rfl)
      subst e4
      have hv : LDk w' (w0.heap.size + 2) (.agg #[.slice B1 d.t.us.length d1, .slice B1' d.t.bs.length d1', .slice B1'' d.t.ns.length d1'', .int .i64 d.now, .slice B2 d.past.length d2]) d := ⟨_, _, _, _, rfl, h1, h2, hF.pA (hall ⟨2, Ground.data⟩ (by simp) rfl) (hall ⟨8, Ground.data⟩ (by simp) rfl) _ _ _ rfl⟩
      replace hF := Lib.hid hF
      clear hall
      go_simp
      refine hK.out _ _ ?_
      exact ⟨_, _, _, _, _, _, _, _, _, _, rfl, hF.out.up9 hv⟩
    · simp only [List.getElem?_toArray, List.getElem?_cons_succ, List.getElem?_cons_zero, Option.some.injEq] at ho
      subst ho
      have hv := hF.b9 (hall ⟨9, Ground.data⟩ (by simp) rfl)
      obtain ⟨B1, d1, B2, d2, B3, d3, B5, d5, e1, -⟩ := hv.dsk.ex
      subst e1
      obtain ⟨⟨r0, r1, r2, r3, r4⟩, ⟨f0, f1, f2, f3, f4⟩⟩ := blk5 (hF.hz hun)
      have hlw := hF.low.size
      replace hF := Lib.hid hF
      clear hall
      go_simp
      refine hK.out _ _ ?_
      exact ⟨_, _, _, _, _, _, _, _, _, _, rfl, hF.out.up10 hsz hun hv (by omega)⟩
  · exact ⟨_, _, _, _, _, _, _, _, _, _, rfl, (fun h => by simp at h), (fun h => by simp at h), (fun h => by simp at h), (fun h => by simp at h), (fun h => by simp at h), (fun h => by simp at h), (fun h => by simp at h), (fun h => by simp at h), (fun h => by simp at h), (fun h => by simp at h), (fun h => by simp at h), (fun h _ => by simp at h), (fun h _ => by simp at h), (fun _ => HZ.out.drew), HX.out.drew, hB.out.drew, by have := hsW.out; simpa using Nat.le_of_eq this.symm⟩
end Go.Proofs.Ytjnlpknjdclalaa
