/-
  The contract of copiedDesk of the program.
-/
import Derived.Test.YtjnlpknjdclalaaDkL
import Derived.Test.YtjnlpknjdclalaaInv
import Derived.Test.YtjnlpknjdclalaaClone
namespace Go.Proofs.Ytjnlpknjdclalaa
open Go.RowKit

/-- What is known of the operations that have come up. -/
structure CDC (w0 : World) (t : Tg) (b0 : Nat) (cs : Array Value) (A1 : Option Addr) (c1 : Nat) (A2 : Option Addr) (c2 : Nat) (A3 : Option Addr) (c3 : Nat) (l : Array Bool) (w : World) (s3 s4 s5 s6 s7 s8 s9 s10 s11 s12 s13 s14 s15 s16 : Value) : Prop where
  f0 : l.getD 0 false = true → s4 = .pointer (some ⟨b0, 0, none⟩)
  f1 : l.getD 1 false = true → s5 = .pointer (some ⟨b0, 0, none⟩)
  f2 : l.getD 2 false = true → s6 = .slice A1 t.us.length c1
  o3 : l.getD 3 false = true → OwnStrs w w0.heap.size s7 t.us
  f4 : l.getD 4 false = true → s8 = .pointer (some ⟨b0, 0, none⟩)
  f5 : l.getD 5 false = true → s9 = .pointer (some ⟨b0, 1, none⟩)
  f6 : l.getD 6 false = true → s10 = .slice A2 t.bs.length c2
  o7 : l.getD 7 false = true → OwnI w w0.heap.size s11 t.bs
  f8 : l.getD 8 false = true → s12 = .pointer (some ⟨b0, 0, none⟩)
  f9 : l.getD 9 false = true → s13 = .pointer (some ⟨b0, 2, none⟩)
  f10 : l.getD 10 false = true → s14 = .slice A3 t.ns.length c3
  o11 : l.getD 11 false = true → OwnStrs w w0.heap.size s15 t.ns
  b12 : l.getD 12 false = true → OwnTng w w0.heap.size s16 t
  a13 : l.getD 13 false = true → ∃ q, s3 = .pointer (some ⟨q, 0, none⟩) ∧ w0.heap.size ≤ q ∧ (l.getD 14 false = false → Blk w q 26 #[.slice none 0 0, .slice none 0 0, .slice none 0 0])
  hr : l.getD 14 false = true → ∃ q u0 u1 u2, s3 = .pointer (some ⟨q, 0, none⟩) ∧ w0.heap.size ≤ q ∧ Blk w q 26 #[u0, u1, u2] ∧ OwnTng w w0.heap.size (.agg #[u0, u1, u2]) t
  p3x11 : l.getD 3 false = true → l.getD 11 false = true → ∀ k, s7.ownBlock = some k → s15.ownBlock ≠ some k
  da : l.getD 14 false = true → l.getD 13 false = true
  hx : Blk w (b0) 28 cs
  low : Below w0.heap.size w0 w
  sz : w0.heap.size ≤ w.heap.size
section
variable {w0 : World} {t : Tg} {b0 : Nat} {cs : Array Value} {A1 : Option Addr} {c1 : Nat} {A2 : Option Addr} {c2 : Nat} {A3 : Option Addr} {c3 : Nat} {l : Array Bool} {w w' : World} {s3 s4 s5 s6 s7 s8 s9 s10 s11 s12 s13 s14 s15 s16 v : Value}
theorem CDC.up0 (h : CDC w0 t b0 cs A1 c1 A2 c2 A3 c3 l w s3 s4 s5 s6 s7 s8 s9 s10 s11 s12 s13 s14 s15 s16) (hv : v = .pointer (some ⟨b0, 0, none⟩)) : CDC w0 t b0 cs A1 c1 A2 c2 A3 c3 (l.setIfInBounds 0 true) w s3 v s5 s6 s7 s8 s9 s10 s11 s12 s13 s14 s15 s16 :=
  ⟨(fun _ => hv), (fun h' => h.f1 (listed_set h' (by decide))), (fun h' => h.f2 (listed_set h' (by decide))), (fun h' => h.o3 (listed_set h' (by decide))), (fun h' => h.f4 (listed_set h' (by decide))), (fun h' => h.f5 (listed_set h' (by decide))), (fun h' => h.f6 (listed_set h' (by decide))), (fun h' => h.o7 (listed_set h' (by decide))), (fun h' => h.f8 (listed_set h' (by decide))), (fun h' => h.f9 (listed_set h' (by decide))), (fun h' => h.f10 (listed_set h' (by decide))), (fun h' => h.o11 (listed_set h' (by decide))), (fun h' => h.b12 (listed_set h' (by decide))), (fun h' => (let ⟨q, e, hq, hh⟩ := h.a13 (listed_set h' (by decide)); ⟨q, e, hq, fun hn => hh (by rwa [listed_same (by decide)] at hn)⟩)), (fun h' => h.hr (listed_set h' (by decide))), (fun h1 h2 => h.p3x11 (listed_set h1 (by decide)) (listed_set h2 (by decide))), (fun h' => by rw [listed_same (by decide)] at h' ⊢; exact h.da h'), h.hx, h.low, h.sz⟩
theorem CDC.up1 (h : CDC w0 t b0 cs A1 c1 A2 c2 A3 c3 l w s3 s4 s5 s6 s7 s8 s9 s10 s11 s12 s13 s14 s15 s16) (hv : v = .pointer (some ⟨b0, 0, none⟩)) : CDC w0 t b0 cs A1 c1 A2 c2 A3 c3 (l.setIfInBounds 1 true) w s3 s4 v s6 s7 s8 s9 s10 s11 s12 s13 s14 s15 s16 :=
  ⟨(fun h' => h.f0 (listed_set h' (by decide))), (fun _ => hv), (fun h' => h.f2 (listed_set h' (by decide))), (fun h' => h.o3 (listed_set h' (by decide))), (fun h' => h.f4 (listed_set h' (by decide))), (fun h' => h.f5 (listed_set h' (by decide))), (fun h' => h.f6 (listed_set h' (by decide))), (fun h' => h.o7 (listed_set h' (by decide))), (fun h' => h.f8 (listed_set h' (by decide))), (fun h' => h.f9 (listed_set h' (by decide))), (fun h' => h.f10 (listed_set h' (by decide))), (fun h' => h.o11 (listed_set h' (by decide))), (fun h' => h.b12 (listed_set h' (by decide))), (fun h' => (let ⟨q, e, hq, hh⟩ := h.a13 (listed_set h' (by decide)); ⟨q, e, hq, fun hn => hh (by rwa [listed_same (by decide)] at hn)⟩)), (fun h' => h.hr (listed_set h' (by decide))), (fun h1 h2 => h.p3x11 (listed_set h1 (by decide)) (listed_set h2 (by decide))), (fun h' => by rw [listed_same (by decide)] at h' ⊢; exact h.da h'), h.hx, h.low, h.sz⟩
theorem CDC.up2 (h : CDC w0 t b0 cs A1 c1 A2 c2 A3 c3 l w s3 s4 s5 s6 s7 s8 s9 s10 s11 s12 s13 s14 s15 s16) (hv : v = .slice A1 t.us.length c1) : CDC w0 t b0 cs A1 c1 A2 c2 A3 c3 (l.setIfInBounds 2 true) w s3 s4 s5 v s7 s8 s9 s10 s11 s12 s13 s14 s15 s16 :=
  ⟨(fun h' => h.f0 (listed_set h' (by decide))), (fun h' => h.f1 (listed_set h' (by decide))), (fun _ => hv), (fun h' => h.o3 (listed_set h' (by decide))), (fun h' => h.f4 (listed_set h' (by decide))), (fun h' => h.f5 (listed_set h' (by decide))), (fun h' => h.f6 (listed_set h' (by decide))), (fun h' => h.o7 (listed_set h' (by decide))), (fun h' => h.f8 (listed_set h' (by decide))), (fun h' => h.f9 (listed_set h' (by decide))), (fun h' => h.f10 (listed_set h' (by decide))), (fun h' => h.o11 (listed_set h' (by decide))), (fun h' => h.b12 (listed_set h' (by decide))), (fun h' => (let ⟨q, e, hq, hh⟩ := h.a13 (listed_set h' (by decide)); ⟨q, e, hq, fun hn => hh (by rwa [listed_same (by decide)] at hn)⟩)), (fun h' => h.hr (listed_set h' (by decide))), (fun h1 h2 => h.p3x11 (listed_set h1 (by decide)) (listed_set h2 (by decide))), (fun h' => by rw [listed_same (by decide)] at h' ⊢; exact h.da h'), h.hx, h.low, h.sz⟩
theorem CDC.up3 (h : CDC w0 t b0 cs A1 c1 A2 c2 A3 c3 l w s3 s4 s5 s6 s7 s8 s9 s10 s11 s12 s13 s14 s15 s16) (hv : OwnStrs w' w0.heap.size v t.us) (hfr : ∀ k, v.ownBlock = some k → w.heap.size ≤ k) (hb : Below w.heap.size w w') : CDC w0 t b0 cs A1 c1 A2 c2 A3 c3 (l.setIfInBounds 3 true) w' s3 s4 s5 s6 v s8 s9 s10 s11 s12 s13 s14 s15 s16 :=
  ⟨(fun h' => h.f0 (listed_set h' (by decide))), (fun h' => h.f1 (listed_set h' (by decide))), (fun h' => h.f2 (listed_set h' (by decide))), (fun _ => hv), (fun h' => h.f4 (listed_set h' (by decide))), (fun h' => h.f5 (listed_set h' (by decide))), (fun h' => h.f6 (listed_set h' (by decide))), (fun h' => (h.o7 (listed_set h' (by decide))).below hb (Nat.le_refl _)), (fun h' => h.f8 (listed_set h' (by decide))), (fun h' => h.f9 (listed_set h' (by decide))), (fun h' => h.f10 (listed_set h' (by decide))), (fun h' => (h.o11 (listed_set h' (by decide))).below hb (Nat.le_refl _)), (fun h' => (h.b12 (listed_set h' (by decide))).below hb (Nat.le_refl _)), (fun h' => (let ⟨q, e, hq, hh⟩ := h.a13 (listed_set h' (by decide)); ⟨q, e, hq, fun hn => let b := hh (by rwa [listed_same (by decide)] at hn); b.below hb b.lt⟩)), (fun h' => (let ⟨q, u0, u1, u2, e, hq, b, hd⟩ := h.hr (listed_set h' (by decide)); ⟨q, u0, u1, u2, e, hq, b.below hb b.lt, hd.below hb (Nat.le_refl _)⟩)), (fun _ h2 => fun k hk he => by have h3 := (World.ownsRow.lt (h.o11 (listed_set h2 (by decide))) k he).2; have := hfr k hk; omega), (fun h' => by rw [listed_same (by decide)] at h' ⊢; exact h.da h'), h.hx.below hb h.hx.lt, h.low.trans (hb.mono h.low.size), Nat.le_trans h.sz hb.size⟩
theorem CDC.up4 (h : CDC w0 t b0 cs A1 c1 A2 c2 A3 c3 l w s3 s4 s5 s6 s7 s8 s9 s10 s11 s12 s13 s14 s15 s16) (hv : v = .pointer (some ⟨b0, 0, none⟩)) : CDC w0 t b0 cs A1 c1 A2 c2 A3 c3 (l.setIfInBounds 4 true) w s3 s4 s5 s6 s7 v s9 s10 s11 s12 s13 s14 s15 s16 :=
  ⟨(fun h' => h.f0 (listed_set h' (by decide))), (fun h' => h.f1 (listed_set h' (by decide))), (fun h' => h.f2 (listed_set h' (by decide))), (fun h' => h.o3 (listed_set h' (by decide))), (fun _ => hv), (fun h' => h.f5 (listed_set h' (by decide))), (fun h' => h.f6 (listed_set h' (by decide))), (fun h' => h.o7 (listed_set h' (by decide))), (fun h' => h.f8 (listed_set h' (by decide))), (fun h' => h.f9 (listed_set h' (by decide))), (fun h' => h.f10 (listed_set h' (by decide))), (fun h' => h.o11 (listed_set h' (by decide))), (fun h' => h.b12 (listed_set h' (by decide))), (fun h' => (let ⟨q, e, hq, hh⟩ := h.a13 (listed_set h' (by decide)); ⟨q, e, hq, fun hn => hh (by rwa [listed_same (by decide)] at hn)⟩)), (fun h' => h.hr (listed_set h' (by decide))), (fun h1 h2 => h.p3x11 (listed_set h1 (by decide)) (listed_set h2 (by decide))), (fun h' => by rw [listed_same (by decide)] at h' ⊢; exact h.da h'), h.hx, h.low, h.sz⟩
theorem CDC.up5 (h : CDC w0 t b0 cs A1 c1 A2 c2 A3 c3 l w s3 s4 s5 s6 s7 s8 s9 s10 s11 s12 s13 s14 s15 s16) (hv : v = .pointer (some ⟨b0, 1, none⟩)) : CDC w0 t b0 cs A1 c1 A2 c2 A3 c3 (l.setIfInBounds 5 true) w s3 s4 s5 s6 s7 s8 v s10 s11 s12 s13 s14 s15 s16 :=
  ⟨(fun h' => h.f0 (listed_set h' (by decide))), (fun h' => h.f1 (listed_set h' (by decide))), (fun h' => h.f2 (listed_set h' (by decide))), (fun h' => h.o3 (listed_set h' (by decide))), (fun h' => h.f4 (listed_set h' (by decide))), (fun _ => hv), (fun h' => h.f6 (listed_set h' (by decide))), (fun h' => h.o7 (listed_set h' (by decide))), (fun h' => h.f8 (listed_set h' (by decide))), (fun h' => h.f9 (listed_set h' (by decide))), (fun h' => h.f10 (listed_set h' (by decide))), (fun h' => h.o11 (listed_set h' (by decide))), (fun h' => h.b12 (listed_set h' (by decide))), (fun h' => (let ⟨q, e, hq, hh⟩ := h.a13 (listed_set h' (by decide)); ⟨q, e, hq, fun hn => hh (by rwa [listed_same (by decide)] at hn)⟩)), (fun h' => h.hr (listed_set h' (by decide))), (fun h1 h2 => h.p3x11 (listed_set h1 (by decide)) (listed_set h2 (by decide))), (fun h' => by rw [listed_same (by decide)] at h' ⊢; exact h.da h'), h.hx, h.low, h.sz⟩
theorem CDC.up6 (h : CDC w0 t b0 cs A1 c1 A2 c2 A3 c3 l w s3 s4 s5 s6 s7 s8 s9 s10 s11 s12 s13 s14 s15 s16) (hv : v = .slice A2 t.bs.length c2) : CDC w0 t b0 cs A1 c1 A2 c2 A3 c3 (l.setIfInBounds 6 true) w s3 s4 s5 s6 s7 s8 s9 v s11 s12 s13 s14 s15 s16 :=
  ⟨(fun h' => h.f0 (listed_set h' (by decide))), (fun h' => h.f1 (listed_set h' (by decide))), (fun h' => h.f2 (listed_set h' (by decide))), (fun h' => h.o3 (listed_set h' (by decide))), (fun h' => h.f4 (listed_set h' (by decide))), (fun h' => h.f5 (listed_set h' (by decide))), (fun _ => hv), (fun h' => h.o7 (listed_set h' (by decide))), (fun h' => h.f8 (listed_set h' (by decide))), (fun h' => h.f9 (listed_set h' (by decide))), (fun h' => h.f10 (listed_set h' (by decide))), (fun h' => h.o11 (listed_set h' (by decide))), (fun h' => h.b12 (listed_set h' (by decide))), (fun h' => (let ⟨q, e, hq, hh⟩ := h.a13 (listed_set h' (by decide)); ⟨q, e, hq, fun hn => hh (by rwa [listed_same (by decide)] at hn)⟩)), (fun h' => h.hr (listed_set h' (by decide))), (fun h1 h2 => h.p3x11 (listed_set h1 (by decide)) (listed_set h2 (by decide))), (fun h' => by rw [listed_same (by decide)] at h' ⊢; exact h.da h'), h.hx, h.low, h.sz⟩
theorem CDC.up7 (h : CDC w0 t b0 cs A1 c1 A2 c2 A3 c3 l w s3 s4 s5 s6 s7 s8 s9 s10 s11 s12 s13 s14 s15 s16) (hv : OwnI w' w0.heap.size v t.bs) (hb : Below w.heap.size w w') : CDC w0 t b0 cs A1 c1 A2 c2 A3 c3 (l.setIfInBounds 7 true) w' s3 s4 s5 s6 s7 s8 s9 s10 v s12 s13 s14 s15 s16 :=
  ⟨(fun h' => h.f0 (listed_set h' (by decide))), (fun h' => h.f1 (listed_set h' (by decide))), (fun h' => h.f2 (listed_set h' (by decide))), (fun h' => (h.o3 (listed_set h' (by decide))).below hb (Nat.le_refl _)), (fun h' => h.f4 (listed_set h' (by decide))), (fun h' => h.f5 (listed_set h' (by decide))), (fun h' => h.f6 (listed_set h' (by decide))), (fun _ => hv), (fun h' => h.f8 (listed_set h' (by decide))), (fun h' => h.f9 (listed_set h' (by decide))), (fun h' => h.f10 (listed_set h' (by decide))), (fun h' => (h.o11 (listed_set h' (by decide))).below hb (Nat.le_refl _)), (fun h' => (h.b12 (listed_set h' (by decide))).below hb (Nat.le_refl _)), (fun h' => (let ⟨q, e, hq, hh⟩ := h.a13 (listed_set h' (by decide)); ⟨q, e, hq, fun hn => let b := hh (by rwa [listed_same (by decide)] at hn); b.below hb b.lt⟩)), (fun h' => (let ⟨q, u0, u1, u2, e, hq, b, hd⟩ := h.hr (listed_set h' (by decide)); ⟨q, u0, u1, u2, e, hq, b.below hb b.lt, hd.below hb (Nat.le_refl _)⟩)), (fun h1 h2 => h.p3x11 (listed_set h1 (by decide)) (listed_set h2 (by decide))), (fun h' => by rw [listed_same (by decide)] at h' ⊢; exact h.da h'), h.hx.below hb h.hx.lt, h.low.trans (hb.mono h.low.size), Nat.le_trans h.sz hb.size⟩
theorem CDC.up8 (h : CDC w0 t b0 cs A1 c1 A2 c2 A3 c3 l w s3 s4 s5 s6 s7 s8 s9 s10 s11 s12 s13 s14 s15 s16) (hv : v = .pointer (some ⟨b0, 0, none⟩)) : CDC w0 t b0 cs A1 c1 A2 c2 A3 c3 (l.setIfInBounds 8 true) w s3 s4 s5 s6 s7 s8 s9 s10 s11 v s13 s14 s15 s16 :=
  ⟨(fun h' => h.f0 (listed_set h' (by decide))), (fun h' => h.f1 (listed_set h' (by decide))), (fun h' => h.f2 (listed_set h' (by decide))), (fun h' => h.o3 (listed_set h' (by decide))), (fun h' => h.f4 (listed_set h' (by decide))), (fun h' => h.f5 (listed_set h' (by decide))), (fun h' => h.f6 (listed_set h' (by decide))), (fun h' => h.o7 (listed_set h' (by decide))), (fun _ => hv), (fun h' => h.f9 (listed_set h' (by decide))), (fun h' => h.f10 (listed_set h' (by decide))), (fun h' => h.o11 (listed_set h' (by decide))), (fun h' => h.b12 (listed_set h' (by decide))), (fun h' => (let ⟨q, e, hq, hh⟩ := h.a13 (listed_set h' (by decide)); ⟨q, e, hq, fun hn => hh (by rwa [listed_same (by decide)] at hn)⟩)), (fun h' => h.hr (listed_set h' (by decide))), (fun h1 h2 => h.p3x11 (listed_set h1 (by decide)) (listed_set h2 (by decide))), (fun h' => by rw [listed_same (by decide)] at h' ⊢; exact h.da h'), h.hx, h.low, h.sz⟩
theorem CDC.up9 (h : CDC w0 t b0 cs A1 c1 A2 c2 A3 c3 l w s3 s4 s5 s6 s7 s8 s9 s10 s11 s12 s13 s14 s15 s16) (hv : v = .pointer (some ⟨b0, 2, none⟩)) : CDC w0 t b0 cs A1 c1 A2 c2 A3 c3 (l.setIfInBounds 9 true) w s3 s4 s5 s6 s7 s8 s9 s10 s11 s12 v s14 s15 s16 :=
  ⟨(fun h' => h.f0 (listed_set h' (by decide))), (fun h' => h.f1 (listed_set h' (by decide))), (fun h' => h.f2 (listed_set h' (by decide))), (fun h' => h.o3 (listed_set h' (by decide))), (fun h' => h.f4 (listed_set h' (by decide))), (fun h' => h.f5 (listed_set h' (by decide))), (fun h' => h.f6 (listed_set h' (by decide))), (fun h' => h.o7 (listed_set h' (by decide))), (fun h' => h.f8 (listed_set h' (by decide))), (fun _ => hv), (fun h' => h.f10 (listed_set h' (by decide))), (fun h' => h.o11 (listed_set h' (by decide))), (fun h' => h.b12 (listed_set h' (by decide))), (fun h' => (let ⟨q, e, hq, hh⟩ := h.a13 (listed_set h' (by decide)); ⟨q, e, hq, fun hn => hh (by rwa [listed_same (by decide)] at hn)⟩)), (fun h' => h.hr (listed_set h' (by decide))), (fun h1 h2 => h.p3x11 (listed_set h1 (by decide)) (listed_set h2 (by decide))), (fun h' => by rw [listed_same (by decide)] at h' ⊢; exact h.da h'), h.hx, h.low, h.sz⟩
theorem CDC.up10 (h : CDC w0 t b0 cs A1 c1 A2 c2 A3 c3 l w s3 s4 s5 s6 s7 s8 s9 s10 s11 s12 s13 s14 s15 s16) (hv : v = .slice A3 t.ns.length c3) : CDC w0 t b0 cs A1 c1 A2 c2 A3 c3 (l.setIfInBounds 10 true) w s3 s4 s5 s6 s7 s8 s9 s10 s11 s12 s13 v s15 s16 :=
  ⟨(fun h' => h.f0 (listed_set h' (by decide))), (fun h' => h.f1 (listed_set h' (by decide))), (fun h' => h.f2 (listed_set h' (by decide))), (fun h' => h.o3 (listed_set h' (by decide))), (fun h' => h.f4 (listed_set h' (by decide))), (fun h' => h.f5 (listed_set h' (by decide))), (fun h' => h.f6 (listed_set h' (by decide))), (fun h' => h.o7 (listed_set h' (by decide))), (fun h' => h.f8 (listed_set h' (by decide))), (fun h' => h.f9 (listed_set h' (by decide))), (fun _ => hv), (fun h' => h.o11 (listed_set h' (by decide))), (fun h' => h.b12 (listed_set h' (by decide))), (fun h' => (let ⟨q, e, hq, hh⟩ := h.a13 (listed_set h' (by decide)); ⟨q, e, hq, fun hn => hh (by rwa [listed_same (by decide)] at hn)⟩)), (fun h' => h.hr (listed_set h' (by decide))), (fun h1 h2 => h.p3x11 (listed_set h1 (by decide)) (listed_set h2 (by decide))), (fun h' => by rw [listed_same (by decide)] at h' ⊢; exact h.da h'), h.hx, h.low, h.sz⟩
theorem CDC.up11 (h : CDC w0 t b0 cs A1 c1 A2 c2 A3 c3 l w s3 s4 s5 s6 s7 s8 s9 s10 s11 s12 s13 s14 s15 s16) (hv : OwnStrs w' w0.heap.size v t.ns) (hfr : ∀ k, v.ownBlock = some k → w.heap.size ≤ k) (hb : Below w.heap.size w w') : CDC w0 t b0 cs A1 c1 A2 c2 A3 c3 (l.setIfInBounds 11 true) w' s3 s4 s5 s6 s7 s8 s9 s10 s11 s12 s13 s14 v s16 :=
  ⟨(fun h' => h.f0 (listed_set h' (by decide))), (fun h' => h.f1 (listed_set h' (by decide))), (fun h' => h.f2 (listed_set h' (by decide))), (fun h' => (h.o3 (listed_set h' (by decide))).below hb (Nat.le_refl _)), (fun h' => h.f4 (listed_set h' (by decide))), (fun h' => h.f5 (listed_set h' (by decide))), (fun h' => h.f6 (listed_set h' (by decide))), (fun h' => (h.o7 (listed_set h' (by decide))).below hb (Nat.le_refl _)), (fun h' => h.f8 (listed_set h' (by decide))), (fun h' => h.f9 (listed_set h' (by decide))), (fun h' => h.f10 (listed_set h' (by decide))), (fun _ => hv), (fun h' => (h.b12 (listed_set h' (by decide))).below hb (Nat.le_refl _)), (fun h' => (let ⟨q, e, hq, hh⟩ := h.a13 (listed_set h' (by decide)); ⟨q, e, hq, fun hn => let b := hh (by rwa [listed_same (by decide)] at hn); b.below hb b.lt⟩)), (fun h' => (let ⟨q, u0, u1, u2, e, hq, b, hd⟩ := h.hr (listed_set h' (by decide)); ⟨q, u0, u1, u2, e, hq, b.below hb b.lt, hd.below hb (Nat.le_refl _)⟩)), (fun h1 _ => fun k hk he => by have h3 := (World.ownsRow.lt (h.o3 (listed_set h1 (by decide))) k hk).2; have := hfr k he; omega), (fun h' => by rw [listed_same (by decide)] at h' ⊢; exact h.da h'), h.hx.below hb h.hx.lt, h.low.trans (hb.mono h.low.size), Nat.le_trans h.sz hb.size⟩
theorem CDC.up12 (h : CDC w0 t b0 cs A1 c1 A2 c2 A3 c3 l w s3 s4 s5 s6 s7 s8 s9 s10 s11 s12 s13 s14 s15 s16) (hv : OwnTng w w0.heap.size v t) : CDC w0 t b0 cs A1 c1 A2 c2 A3 c3 (l.setIfInBounds 12 true) w s3 s4 s5 s6 s7 s8 s9 s10 s11 s12 s13 s14 s15 v :=
  ⟨(fun h' => h.f0 (listed_set h' (by decide))), (fun h' => h.f1 (listed_set h' (by decide))), (fun h' => h.f2 (listed_set h' (by decide))), (fun h' => h.o3 (listed_set h' (by decide))), (fun h' => h.f4 (listed_set h' (by decide))), (fun h' => h.f5 (listed_set h' (by decide))), (fun h' => h.f6 (listed_set h' (by decide))), (fun h' => h.o7 (listed_set h' (by decide))), (fun h' => h.f8 (listed_set h' (by decide))), (fun h' => h.f9 (listed_set h' (by decide))), (fun h' => h.f10 (listed_set h' (by decide))), (fun h' => h.o11 (listed_set h' (by decide))), (fun _ => hv), (fun h' => (let ⟨q, e, hq, hh⟩ := h.a13 (listed_set h' (by decide)); ⟨q, e, hq, fun hn => hh (by rwa [listed_same (by decide)] at hn)⟩)), (fun h' => h.hr (listed_set h' (by decide))), (fun h1 h2 => h.p3x11 (listed_set h1 (by decide)) (listed_set h2 (by decide))), (fun h' => by rw [listed_same (by decide)] at h' ⊢; exact h.da h'), h.hx, h.low, h.sz⟩
theorem CDC.up13 (h : CDC w0 t b0 cs A1 c1 A2 c2 A3 c3 l w s3 s4 s5 s6 s7 s8 s9 s10 s11 s12 s13 s14 s15 s16) (hsz : l.size = 15) (hun : l.getD 13 false = false) : CDC w0 t b0 cs A1 c1 A2 c2 A3 c3 (l.setIfInBounds 13 true) (w.alloc (.cells #[.slice none 0 0, .slice none 0 0, .slice none 0 0] 26)) (.pointer (some ⟨w.heap.size, 0, none⟩)) s4 s5 s6 s7 s8 s9 s10 s11 s12 s13 s14 s15 s16 := by
  have hb := (Below.refl w.heap.size w).alloc (Nat.le_refl _) (.cells #[.slice none 0 0, .slice none 0 0, .slice none 0 0] 26)
  exact ⟨(fun h' => h.f0 (listed_set h' (by decide))), (fun h' => h.f1 (listed_set h' (by decide))), (fun h' => h.f2 (listed_set h' (by decide))), (fun h' => (h.o3 (listed_set h' (by decide))).below hb (Nat.le_refl _)), (fun h' => h.f4 (listed_set h' (by decide))), (fun h' => h.f5 (listed_set h' (by decide))), (fun h' => h.f6 (listed_set h' (by decide))), (fun h' => (h.o7 (listed_set h' (by decide))).below hb (Nat.le_refl _)), (fun h' => h.f8 (listed_set h' (by decide))), (fun h' => h.f9 (listed_set h' (by decide))), (fun h' => h.f10 (listed_set h' (by decide))), (fun h' => (h.o11 (listed_set h' (by decide))).below hb (Nat.le_refl _)), (fun h' => (h.b12 (listed_set h' (by decide))).below hb (Nat.le_refl _)), (fun _ => ⟨w.heap.size, rfl, h.sz, fun _ => Blk.new _ _ _⟩), (fun h' => absurd (h.da (listed_set h' (by decide))) (by rw [hun]; simp)), (fun h1 h2 => h.p3x11 (listed_set h1 (by decide)) (listed_set h2 (by decide))), (fun _ => listed_at (by omega)), h.hx.below hb h.hx.lt, h.low.trans (hb.mono h.low.size), Nat.le_trans h.sz hb.size⟩
theorem CDC.up14 (h : CDC w0 t b0 cs A1 c1 A2 c2 A3 c3 l w s3 s4 s5 s6 s7 s8 s9 s10 s11 s12 s13 s14 s15 s16) {u0 u1 u2 : Value} {q : Nat} (hsz : l.size = 15) (hA : l.getD 13 false = true) (hq : w0.heap.size ≤ q) (he : s3 = .pointer (some ⟨q, 0, none⟩)) (hz : Blk w q 26 #[.slice none 0 0, .slice none 0 0, .slice none 0 0]) (hv : OwnTng w w0.heap.size (.agg #[u0, u1, u2]) t) (hgq : w0.heap.size ≤ q) (hxq : b0 ≠ q) : CDC w0 t b0 cs A1 c1 A2 c2 A3 c3 (l.setIfInBounds 14 true) (((w.setCell ⟨q, 0, none⟩ u0).setCell ⟨q, 1, none⟩ u1).setCell ⟨q, 2, none⟩ u2) s3 s4 s5 s6 s7 s8 s9 s10 s11 s12 s13 s14 s15 s16 := by
  have HB : Blk (((w.setCell ⟨q, 0, none⟩ u0).setCell ⟨q, 1, none⟩ u1).setCell ⟨q, 2, none⟩ u2) q 26 #[u0, u1, u2] := by
    have := (Blk.set_ (Blk.set_ (Blk.set_ hz 0 u0) 1 u1) 2 u2)
    simpa using this
  have HS : ∀ {B : Nat} {v : Value} {xs : List ByteArray}, OwnStrs w B v xs → OwnStrs (((w.setCell ⟨q, 0, none⟩ u0).setCell ⟨q, 1, none⟩ u1).setCell ⟨q, 2, none⟩ u2) B v xs := fun {B v xs} ho => by
    have m := own_blk_ne ho hz (by decide)
    exact (own_set (own_set (own_set ho m) m) m)
  have HI : ∀ {B : Nat} {v : Value} {xs : List Int}, OwnI w B v xs → OwnI (((w.setCell ⟨q, 0, none⟩ u0).setCell ⟨q, 1, none⟩ u1).setCell ⟨q, 2, none⟩ u2) B v xs := fun {B v xs} ho => by
    have m := own_blk_ne ho hz (by decide)
    exact (own_set (own_set (own_set ho m) m) m)
  have HRS := @HS
  have HRI := @HI
  have HRT : ∀ {B : Nat} {v : Value} {t : Tg}, LTng w B v t → LTng (((w.setCell ⟨q, 0, none⟩ u0).setCell ⟨q, 1, none⟩ u1).setCell ⟨q, 2, none⟩ u2) B v t := fun {B v t} ho => by
    obtain ⟨v1, v2, v3, e, o1, o2, o3⟩ := ho.ex
    exact ⟨v1, v2, v3, e, HS o1, HI o2, HS o3⟩
  have HRB : ∀ {v : Value}, OwnTng w w0.heap.size v t → OwnTng (((w.setCell ⟨q, 0, none⟩ u0).setCell ⟨q, 1, none⟩ u1).setCell ⟨q, 2, none⟩ u2) w0.heap.size v t := fun {v} ho => by
    obtain ⟨v1, v2, v3, e, h1, h2, h3, ap⟩ := ho.ex
    exact ⟨v1, v2, v3, e, HS h1, HI h2, HS h3, ap⟩
  have HL : ∀ {g : Nat} {t : TypeId}, Blk w g t #[] → t ≠ 26 → Blk (((w.setCell ⟨q, 0, none⟩ u0).setCell ⟨q, 1, none⟩ u1).setCell ⟨q, 2, none⟩ u2) g t #[] := fun {g t} b hne => by
    have m : g ≠ q := fun e => by
      subst e
      have e1 := b
      have e2 := hz
      unfold Blk at e1 e2
      rw [e1] at e2
      injection e2 with e2
      injection e2 with _ e3
      exact hne e3
    exact (Blk.far (Blk.far (Blk.far b (p := ⟨q, 0, none⟩) m u0) (p := ⟨q, 1, none⟩) m u1) (p := ⟨q, 2, none⟩) m u2)
  have HX : Blk (((w.setCell ⟨q, 0, none⟩ u0).setCell ⟨q, 1, none⟩ u1).setCell ⟨q, 2, none⟩ u2) (b0) 28 cs := (Blk.far (Blk.far (Blk.far h.hx (p := ⟨q, 0, none⟩) hxq u0) (p := ⟨q, 1, none⟩) hxq u1) (p := ⟨q, 2, none⟩) hxq u2)
  have HLow : Below w0.heap.size w0 (((w.setCell ⟨q, 0, none⟩ u0).setCell ⟨q, 1, none⟩ u1).setCell ⟨q, 2, none⟩ u2) := (Below.setCell (Below.setCell (Below.setCell h.low (p := ⟨q, 0, none⟩) (by simpa using hgq) u0) (p := ⟨q, 1, none⟩) (by simpa using hgq) u1) (p := ⟨q, 2, none⟩) (by simpa using hgq) u2)
  have HV := HRB hv
  exact ⟨(fun h' => h.f0 (listed_set h' (by decide))), (fun h' => h.f1 (listed_set h' (by decide))), (fun h' => h.f2 (listed_set h' (by decide))), (fun h' => HRS (h.o3 (listed_set h' (by decide)))), (fun h' => h.f4 (listed_set h' (by decide))), (fun h' => h.f5 (listed_set h' (by decide))), (fun h' => h.f6 (listed_set h' (by decide))), (fun h' => HRI (h.o7 (listed_set h' (by decide)))), (fun h' => h.f8 (listed_set h' (by decide))), (fun h' => h.f9 (listed_set h' (by decide))), (fun h' => h.f10 (listed_set h' (by decide))), (fun h' => HRS (h.o11 (listed_set h' (by decide)))), (fun h' => HRB (h.b12 (listed_set h' (by decide)))), (fun h' => let ⟨q, e, hq, hh⟩ := h.a13 (listed_set h' (by decide)); ⟨q, e, hq, fun hn => by rw [listed_at (by omega)] at hn; cases hn⟩), (fun _ => ⟨q, _, _, _, he, hq, HB, HV⟩), (fun h1 h2 => h.p3x11 (listed_set h1 (by decide)) (listed_set h2 (by decide))), (fun _ => by rw [listed_same (by decide)]; exact hA), HX, HLow, by simpa using h.sz⟩
end

set_option maxRecDepth 100000 in
set_option maxHeartbeats 8000000 in
theorem copiedDesk_any (v : Value) (d : Dk) (w : World) (h : Dsk w v d) (hf : d.Fine) :
    Calls Try.prog 30 #[v] w (RetDkW w d) := by
  obtain ⟨A1, c1, A2, c2, A3, c3, A5, c5, rfl, h1, h2, h3, h5⟩ := h.ex
  have hu := hf.t.us
  have hb := hf.t.bs
  have hn := hf.t.ns
  have hp := hf.past
  have hB := ((Below.refl w.heap.size w).alloc (Nat.le_refl _) (.cells #[.slice A1 d.t.us.length c1, .slice A2 d.t.bs.length c2, .slice A3 d.t.ns.length c3, .int .i64 d.now, .slice A5 d.past.length c5] 28)).alloc (by simp) (.cells #[.slice none 0 0, .slice none 0 0, .slice none 0 0, .int .i64 0, .slice none 0 0] 28)
  have HX := (Blk.new w 28 #[.slice A1 d.t.us.length c1, .slice A2 d.t.bs.length c2, .slice A3 d.t.ns.length c3, .int .i64 d.now, .slice A5 d.past.length c5]).alloc (.cells #[.slice none 0 0, .slice none 0 0, .slice none 0 0, .int .i64 0, .slice none 0 0] 28)
  have HZ : Blk ((w.alloc (.cells #[.slice A1 d.t.us.length c1, .slice A2 d.t.bs.length c2, .slice A3 d.t.ns.length c3, .int .i64 d.now, .slice A5 d.past.length c5] 28)).alloc (.cells #[.slice none 0 0, .slice none 0 0, .slice none 0 0, .int .i64 0, .slice none 0 0] 28)) (w.heap.size + 1) 28 #[.slice none 0 0, .slice none 0 0, .slice none 0 0, .int .i64 0, .slice none 0 0] := blk_new_at _ (by simp)
  have hsW : ((w.alloc (.cells #[.slice A1 d.t.us.length c1, .slice A2 d.t.bs.length c2, .slice A3 d.t.ns.length c3, .int .i64 d.now, .slice A5 d.past.length c5] 28)).alloc (.cells #[.slice none 0 0, .slice none 0 0, .slice none 0 0, .int .i64 0, .slice none 0 0] 28)).heap.size = w.heap.size + 2 := by simp
  have P1 := h1.below hB (Nat.le_refl _)
  have P2 := h2.below hB (Nat.le_refl _)
  have P3 := h3.below hB (Nat.le_refl _)
  have P5 := h5.below hB (Nat.le_refl _)
  replace hB := Lib.hid hB
  replace HX := Lib.hid HX
  replace HZ := Lib.hid HZ
  replace hsW := Lib.hid hsW
  replace P1 := Lib.hid P1
  replace P2 := Lib.hid P2
  replace P3 := Lib.hid P3
  replace P5 := Lib.hid P5
  clear h h1 h2 h3 h5 hf
  go_enter Try.func30, Try.ntmps30
  go_upto_region 1 with (fail)
  generalize hb0 : w.heap.size = b0 at *
  generalize (w.alloc (.cells #[.slice A1 d.t.us.length c1, .slice A2 d.t.bs.length c2, .slice A3 d.t.ns.length c3, .int .i64 d.now, .slice A5 d.past.length c5] 28)).alloc (.cells #[.slice none 0 0, .slice none 0 0, .slice none 0 0, .int .i64 0, .slice none 0 0] 28) = w0 at *
  have K1 := Lib.hid (fun W (hb : Below w0.heap.size w0 W) => cloneStr_any A1 d.t.us.length c1 d.t.us W (P1.out.below hb (Nat.le_refl _)) hu)
  have K2 := Lib.hid (fun W (hb' : Below w0.heap.size w0 W) => cloneInt_any A2 d.t.bs.length c2 d.t.bs W (P2.out.below hb' (Nat.le_refl _)) hb)
  have K3 := Lib.hid (fun W (hb : Below w0.heap.size w0 W) => cloneStr_any A3 d.t.ns.length c3 d.t.ns W (P3.out.below hb (Nat.le_refl _)) hn)
  have hcs : Hid (∀ W, Blk W b0 28 #[.slice A1 d.t.us.length c1, .slice A2 d.t.bs.length c2, .slice A3 d.t.ns.length c3, .int .i64 d.now, .slice A5 d.past.length c5] → W.cell? ⟨b0, 0, none⟩ = some (.slice A1 d.t.us.length c1) ∧ W.cell? ⟨b0, 1, none⟩ = some (.slice A2 d.t.bs.length c2) ∧ W.cell? ⟨b0, 2, none⟩ = some (.slice A3 d.t.ns.length c3)) := fun W hh => ⟨hh.cell 0, hh.cell 1, hh.cell 2⟩
  have hsz0 := hsW.out
  have hszb : b0 < w0.heap.size := by omega
  refine wp_region_any (by kernel_rfl) ?_
  refine wpAny_inv (Inv := fun l a w' => ∃ (s3 s4 s5 s6 s7 s8 s9 s10 s11 s12 s13 s14 s15 s16 : Value), a = ⟨#[.agg #[.slice A1 d.t.us.length c1, .slice A2 d.t.bs.length c2, .slice A3 d.t.ns.length c3, .int .i64 d.now, .slice A5 d.past.length c5], .pointer (some ⟨b0, 0, none⟩), .pointer (some ⟨b0 + 1, 0, none⟩), s3, s4, s5, s6, s7, s8, s9, s10, s11, s12, s13, s14, s15, s16, undef, undef, undef, undef, undef, undef, undef], []⟩ ∧ CDC w0 d.t b0 (#[.slice A1 d.t.us.length c1, .slice A2 d.t.bs.length c2, .slice A3 d.t.ns.length c3, .int .i64 d.now, .slice A5 d.past.length c5]) A1 c1 A2 c2 A3 c3 l w' s3 s4 s5 s6 s7 s8 s9 s10 s11 s12 s13 s14 s15 s16) (ord_spec (by kernel_rfl)) ?_ ?_ _ _ _ _ rfl (by decide) ?_
  · rintro l a w' ⟨s3, s4, s5, s6, s7, s8, s9, s10, s11, s12, s13, s14, s15, s16, rfl, hF⟩ hsz hl
    have hl' : ∀ j, j < 15 → l.getD j false = true := hl
    obtain ⟨q, u0, u1, u2, e3, hq, HB, HV⟩ := hF.hr (hl' 14 (by decide))
    subst e3
    obtain ⟨B1, d1, B2, d2, B3, d3, e1⟩ := HV.shape
    cases e1
    have hlow := hF.low
    have HX2 := HX.out.below hlow HX.out.lt
    have HZ2 := HZ.out.below hlow HZ.out.lt
    have HB2 := hB.out.trans (hlow.mono (by omega))
    have P5' := P5.out.below hlow (Nat.le_refl _)
    have hqs := hlow.size
    replace HB := Lib.hid HB
    replace HV := Lib.hid HV
    replace HX2 := Lib.hid HX2
    replace HZ2 := Lib.hid HZ2
    replace HB2 := Lib.hid HB2
    replace P5' := Lib.hid P5'
    clear hF hl hl' hsz hlow K1 K2 K3 hcs HX HZ hB P1 P2 P3 P5 hsW
    generalize w' = V at *
    have hqn : q ≠ b0 + 1 := by omega
    have hxn : b0 ≠ b0 + 1 := by omega
    obtain ⟨q0, q1, q2, -, -, -⟩ := blk3 HB.out
    obtain ⟨x0, x1, x2, x3, x4⟩ := (blk5 HX2.out).1
    have K5 := Lib.hid (fun W (hb' : Below V.heap.size V W) => cloneInt_any A5 d.past.length c5 d.past W (P5'.out.below hb' (Nat.le_refl _)) hp)
    have hXc := Lib.hid (fun W (b : Below V.heap.size V W) => (blk5 (HX2.out.below b HX2.out.lt)).1)
    have hQc := Lib.hid (fun W (b : Below V.heap.size V W) => blk3 (HB.out.below b HB.out.lt))
    go_upto_region 2 with (fail)
    go_region_held3 (fun W => (W.cell? ⟨q, 0, none⟩ = some (.slice B1 d.t.us.length d1) ∧ W.cell? ⟨q, 1, none⟩ = some (.slice B2 d.t.bs.length d2) ∧ W.cell? ⟨q, 2, none⟩ = some (.slice B3 d.t.ns.length d3)) ∧ W.cell? ⟨b0, 3, none⟩ = some (.int .i64 d.now) ∧ W.cell? ⟨b0, 4, none⟩ = some (.slice A5 d.past.length c5)) (first | go_keep | exact hS2 | exact hS3 _ _ _ _ _)
      (first
        | (go_at_call 58; refine (K5.out _ (by first | exact (Below.refl _ _).drew | exact Below.refl _ _)).mono ?_; rintro e V2 ⟨v5, rfl, o5, b5'⟩; have b5 : Below V.heap.size V V2 := ⟨b5'.os, b5'.tape, b5'.output, b5'.size, b5'.block⟩; obtain ⟨p5, k5, rfl⟩ := o5.shape; obtain ⟨y0, y1, y2, y3, y4⟩ := hXc.out _ b5; obtain ⟨z0, z1, z2, -, -, -⟩ := hQc.out _ b5; have hS2 := And.intro (And.intro z0 (And.intro z1 z2)) (And.intro y3 y4); have hS3 := (fun u0 u1 u2 u3 u4 => (let hq1 := (Blk.far (Blk.far (Blk.far (Blk.far (Blk.far (HB.out.below b5 HB.out.lt) (p := ⟨b0 + 1, 0, none⟩) hqn u0) (p := ⟨b0 + 1, 1, none⟩) hqn u1) (p := ⟨b0 + 1, 2, none⟩) hqn u2) (p := ⟨b0 + 1, 3, none⟩) hqn u3) (p := ⟨b0 + 1, 4, none⟩) hqn u4); let hx1 := (Blk.far (Blk.far (Blk.far (Blk.far (Blk.far (HX2.out.below b5 HX2.out.lt) (p := ⟨b0 + 1, 0, none⟩) hxn u0) (p := ⟨b0 + 1, 1, none⟩) hxn u1) (p := ⟨b0 + 1, 2, none⟩) hxn u2) (p := ⟨b0 + 1, 3, none⟩) hxn u3) (p := ⟨b0 + 1, 4, none⟩) hxn u4); And.intro (And.intro (hq1.cell 0) (And.intro (hq1.cell 1) (hq1.cell 2))) (And.intro (hx1.cell 3) (hx1.cell 4)))); have HZ3 := HZ2.out.below b5 HZ2.out.lt; obtain ⟨⟨r0, r1, r2, r3, r4⟩, ⟨f0, f1, f2, f3, f4⟩⟩ := blk5 HZ3; have b6 := Lib.hid b5; replace o5 := Lib.hid o5; replace HZ3 := Lib.hid HZ3; clear b5 b5' y0 y1 y2 y3 y4 z0 z1 z2))
    all_goals
      clear hS2 hS3 x0 x1 x2 x3 x4 q0 q1 q2 r0 r1 r2 r3 r4
      have HT2 := HV.out.below b6.out (Nat.le_refl _)
      have HLow := HB2.out.trans (b6.out.mono (by omega))
      have ap25 : ∀ k, (Value.slice B2 d.t.bs.length d2).ownBlock = some k → (Value.slice p5 d.past.length k5).ownBlock ≠ some k := fun k hk he => by
        obtain ⟨w1, w2, w3, ee, -, o2, -, -⟩ := HV.out.ex
        cases ee
        have h1 := (World.ownsRow.lt o2 k hk).2
        have h2 := (World.ownsRow.lt o5.out k he).1
        have hs : V.drew.heap.size = V.heap.size := rfl
        omega
      have HF := fun u0 u1 u2 u3 u4 => own_dk5 (u0 := u0) (u1 := u1) (u2 := u2) (u3 := u3) (u4 := u4) (now := d.now) (d := d) rfl HT2 (o5.out.mono (B' := w0.heap.size) (by have hs : V.drew.heap.size = V.heap.size := rfl; omega)) ap25 HZ3.out
      have HG := fun u0 u1 u2 u3 u4 => below_dk5 (u0 := u0) (u1 := u1) (u2 := u2) (u3 := u3) (u4 := u4) (g := b0 + 1) HLow (by omega)
      replace HF := Lib.hid HF
      replace HG := Lib.hid HG
      obtain ⟨r0, r1, r2, r3, r4⟩ := (blk5 HZ3.out).1
      clear HT2 HLow ap25 HZ3
      go_wp2
      refine bodyPost_ret (v := .agg #[.slice B1 d.t.us.length d1, .slice B2 d.t.bs.length d2, .slice B3 d.t.ns.length d3, .int .i64 d.now, .slice p5 d.past.length k5]) (by simp [results, Try.results30, go_sem, r0, r1, r2, r3, r4]) rfl ?_
      exact ⟨_, rfl, (HF.out _ _ _ _ _).mono (by omega), by rw [hb0]; exact HG.out _ _ _ _ _⟩
  · rintro l a w' ⟨s3, s4, s5, s6, s7, s8, s9, s10, s11, s12, s13, s14, s15, s16, rfl, hF⟩ hsz i o hlt ho hun hall
    have hlt' : i < 15 := hlt
    refine wpOp_step ho (fun K' hK => ?_)
    replace hK := Lib.hid hK
    obtain rfl | rfl | rfl | rfl | rfl | rfl | rfl | rfl | rfl | rfl | rfl | rfl | rfl | rfl | rfl : i = 0 ∨ i = 1 ∨ i = 2 ∨ i = 3 ∨ i = 4 ∨ i = 5 ∨ i = 6 ∨ i = 7 ∨ i = 8 ∨ i = 9 ∨ i = 10 ∨ i = 11 ∨ i = 12 ∨ i = 13 ∨ i = 14 := by omega
    · simp only [List.getElem?_toArray, List.getElem?_cons_zero, Option.some.injEq] at ho
      subst ho
      replace hF := Lib.hid hF
      clear hall
      go_simp
      refine hK.out _ _ ?_
      exact ⟨_, _, _, _, _, _, _, _, _, _, _, _, _, _, rfl, hF.out.up0 rfl⟩
    · simp only [List.getElem?_toArray, List.getElem?_cons_succ, List.getElem?_cons_zero, Option.some.injEq] at ho
      subst ho
      have e0 := hF.f0 (hall ⟨0, Ground.data⟩ (by simp) rfl)
      subst e0
      replace hF := Lib.hid hF
      clear hall
      go_simp
      refine hK.out _ _ ?_
      exact ⟨_, _, _, _, _, _, _, _, _, _, _, _, _, _, rfl, hF.out.up1 rfl⟩
    · simp only [List.getElem?_toArray, List.getElem?_cons_succ, List.getElem?_cons_zero, Option.some.injEq] at ho
      subst ho
      have e1 := hF.f1 (hall ⟨1, Ground.data⟩ (by simp) rfl)
      subst e1
      obtain ⟨x0, x1, x2⟩ := hcs.out w' hF.hx
      replace hF := Lib.hid hF
      clear hall
      go_simp
      refine hK.out _ _ ?_
      exact ⟨_, _, _, _, _, _, _, _, _, _, _, _, _, _, rfl, hF.out.up2 rfl⟩
    · simp only [List.getElem?_toArray, List.getElem?_cons_succ, List.getElem?_cons_zero, Option.some.injEq] at ho
      subst ho
      have e2 := hF.f2 (hall ⟨2, Ground.data⟩ (by simp) rfl)
      subst e2
      have hlow := hF.low
      have hsB := hF.sz
      have K := Lib.hid (K1.out w' hlow)
      clear hlow
      replace hF := Lib.hid hF
      clear hall
      go_simp
      go_at_call 57
      refine K.out.mono ?_
      rintro e V ⟨v, rfl, ho', hb'⟩
      obtain ⟨B1, d1, rfl⟩ := ho'.shape
      have hv := ho'.mono hsB
      have hfr := fun k hk => (World.ownsRow.lt ho' k hk).1
      go_simp
      refine hK.out _ _ ?_
      exact ⟨_, _, _, _, _, _, _, _, _, _, _, _, _, _, rfl, hF.out.up3 hv hfr hb'⟩
    · simp only [List.getElem?_toArray, List.getElem?_cons_succ, List.getElem?_cons_zero, Option.some.injEq] at ho
      subst ho
      replace hF := Lib.hid hF
      clear hall
      go_simp
      refine hK.out _ _ ?_
      exact ⟨_, _, _, _, _, _, _, _, _, _, _, _, _, _, rfl, hF.out.up4 rfl⟩
    · simp only [List.getElem?_toArray, List.getElem?_cons_succ, List.getElem?_cons_zero, Option.some.injEq] at ho
      subst ho
      have e4 := hF.f4 (hall ⟨4, Ground.data⟩ (by simp) rfl)
      subst e4
      replace hF := Lib.hid hF
      clear hall
      go_simp
      refine hK.out _ _ ?_
      exact ⟨_, _, _, _, _, _, _, _, _, _, _, _, _, _, rfl, hF.out.up5 rfl⟩
    · simp only [List.getElem?_toArray, List.getElem?_cons_succ, List.getElem?_cons_zero, Option.some.injEq] at ho
      subst ho
      have e5 := hF.f5 (hall ⟨5, Ground.data⟩ (by simp) rfl)
      subst e5
      obtain ⟨x0, x1, x2⟩ := hcs.out w' hF.hx
      replace hF := Lib.hid hF
      clear hall
      go_simp
      refine hK.out _ _ ?_
      exact ⟨_, _, _, _, _, _, _, _, _, _, _, _, _, _, rfl, hF.out.up6 rfl⟩
    · simp only [List.getElem?_toArray, List.getElem?_cons_succ, List.getElem?_cons_zero, Option.some.injEq] at ho
      subst ho
      have e6 := hF.f6 (hall ⟨6, Ground.data⟩ (by simp) rfl)
      subst e6
      have hlow := hF.low
      have hsB := hF.sz
      have K := Lib.hid (K2.out w' hlow)
      clear hlow
      replace hF := Lib.hid hF
      clear hall
      go_simp
      go_at_call 58
      refine K.out.mono ?_
      rintro e V ⟨v, rfl, ho', hb'⟩
      obtain ⟨B1, d1, rfl⟩ := ho'.shape
      have hv := ho'.mono hsB
      go_simp
      refine hK.out _ _ ?_
      exact ⟨_, _, _, _, _, _, _, _, _, _, _, _, _, _, rfl, hF.out.up7 hv hb'⟩
    · simp only [List.getElem?_toArray, List.getElem?_cons_succ, List.getElem?_cons_zero, Option.some.injEq] at ho
      subst ho
      replace hF := Lib.hid hF
      clear hall
      go_simp
      refine hK.out _ _ ?_
      exact ⟨_, _, _, _, _, _, _, _, _, _, _, _, _, _, rfl, hF.out.up8 rfl⟩
    · simp only [List.getElem?_toArray, List.getElem?_cons_succ, List.getElem?_cons_zero, Option.some.injEq] at ho
      subst ho
      have e8 := hF.f8 (hall ⟨8, Ground.data⟩ (by simp) rfl)
      subst e8
      replace hF := Lib.hid hF
      clear hall
      go_simp
      refine hK.out _ _ ?_
      exact ⟨_, _, _, _, _, _, _, _, _, _, _, _, _, _, rfl, hF.out.up9 rfl⟩
    · simp only [List.getElem?_toArray, List.getElem?_cons_succ, List.getElem?_cons_zero, Option.some.injEq] at ho
      subst ho
      have e9 := hF.f9 (hall ⟨9, Ground.data⟩ (by simp) rfl)
      subst e9
      obtain ⟨x0, x1, x2⟩ := hcs.out w' hF.hx
      replace hF := Lib.hid hF
      clear hall
      go_simp
      refine hK.out _ _ ?_
      exact ⟨_, _, _, _, _, _, _, _, _, _, _, _, _, _, rfl, hF.out.up10 rfl⟩
    · simp only [List.getElem?_toArray, List.getElem?_cons_succ, List.getElem?_cons_zero, Option.some.injEq] at ho
      subst ho
      have e10 := hF.f10 (hall ⟨10, Ground.data⟩ (by simp) rfl)
      subst e10
      have hlow := hF.low
      have hsB := hF.sz
      have K := Lib.hid (K3.out w' hlow)
      clear hlow
      replace hF := Lib.hid hF
      clear hall
      go_simp
      go_at_call 57
      refine K.out.mono ?_
      rintro e V ⟨v, rfl, ho', hb'⟩
      obtain ⟨B1, d1, rfl⟩ := ho'.shape
      have hv := ho'.mono hsB
      have hfr := fun k hk => (World.ownsRow.lt ho' k hk).1
      go_simp
      refine hK.out _ _ ?_
      exact ⟨_, _, _, _, _, _, _, _, _, _, _, _, _, _, rfl, hF.out.up11 hv hfr hb'⟩
    · simp only [List.getElem?_toArray, List.getElem?_cons_succ, List.getElem?_cons_zero, Option.some.injEq] at ho
      subst ho
      have h1 := hF.o3 (hall ⟨3, Ground.data⟩ (by simp) rfl)
      obtain ⟨B1, d1, e1⟩ := h1.shape
      subst e1
      have h2 := hF.o7 (hall ⟨7, Ground.data⟩ (by simp) rfl)
      obtain ⟨B2, d2, e2⟩ := h2.shape
      subst e2
      have h3 := hF.o11 (hall ⟨11, Ground.data⟩ (by simp) rfl)
      obtain ⟨B3, d3, e3⟩ := h3.shape
      subst e3
      have hv : OwnTng w' w0.heap.size (.agg #[.slice B1 d.t.us.length d1, .slice B2 d.t.bs.length d2, .slice B3 d.t.ns.length d3]) d.t := ⟨_, _, _, rfl, h1, h2, h3, hF.p3x11 (hall ⟨3, Ground.data⟩ (by simp) rfl) (hall ⟨11, Ground.data⟩ (by simp) rfl)⟩
      replace hF := Lib.hid hF
      clear hall
      go_simp
      refine hK.out _ _ ?_
      exact ⟨_, _, _, _, _, _, _, _, _, _, _, _, _, _, rfl, hF.out.up12 hv⟩
    · simp only [List.getElem?_toArray, List.getElem?_cons_succ, List.getElem?_cons_zero, Option.some.injEq] at ho
      subst ho
      replace hF := Lib.hid hF
      clear hall
      go_simp
      refine hK.out _ _ ?_
      exact ⟨_, _, _, _, _, _, _, _, _, _, _, _, _, _, rfl, hF.out.up13 hsz hun⟩
    · simp only [List.getElem?_toArray, List.getElem?_cons_succ, List.getElem?_cons_zero, Option.some.injEq] at ho
      subst ho
      have hv := hF.b12 (hall ⟨12, Ground.data⟩ (by simp) rfl)
      obtain ⟨B1, d1, B2, d2, B3, d3, e1⟩ := hv.shape
      subst e1
      have hA := (hall ⟨13, Ground.data⟩ (by simp) rfl)
      obtain ⟨q, e3, hq, hz⟩ := hF.a13 hA
      subst e3
      have hz' := hz hun
      obtain ⟨r0, r1, r2, f0, f1, f2⟩ := blk3 hz'
      have hlw := hF.low.size
      replace hF := Lib.hid hF
      clear hall
      go_simp
      refine hK.out _ _ ?_
      exact ⟨_, _, _, _, _, _, _, _, _, _, _, _, _, _, rfl, hF.out.up14 hsz hA hq rfl hz' hv hq (by omega)⟩
  · exact ⟨_, _, _, _, _, _, _, _, _, _, _, _, _, _, rfl, (fun h => by simp at h), (fun h => by simp at h), (fun h => by simp at h), (fun h => by simp at h), (fun h => by simp at h), (fun h => by simp at h), (fun h => by simp at h), (fun h => by simp at h), (fun h => by simp at h), (fun h => by simp at h), (fun h => by simp at h), (fun h => by simp at h), (fun h => by simp at h), (fun h => by simp at h), (fun h => by simp at h), (fun h _ => by simp at h), (fun h => by simp at h), HX.out.drew, (Below.refl _ _).drew, by simp⟩
end Go.Proofs.Ytjnlpknjdclalaa
