/-
  FnExactDeskDo holds for every desk and every deed: DeskDo answers as its model, leaves its arguments unmodified, and returns memory of its own. No condition.
-/
import Derived.Test.YtjnlpknjdclalaaRows
import Derived.Test.YtjnlpknjdclalaaOpenD
import Derived.Test.YtjnlpknjdclalaaExD
import Derived.Test.YtjnlpknjdclalaaInv
import Derived.Test.YtjnlpknjdclalaaIe
import Derived.Test.YtjnlpknjdclalaaJd
import Derived.Test.YtjnlpknjdclalaaDHq
namespace Go.Proofs.Ytjnlpknjdclalaa.fnExactDeskDo
open Go.ChangeShapes Go.WideShapes Go.ChangeAt Go.RowKit
open Go.ChangeMaps (open_string shut_string)

theorem own : ownKnob Try.prog.godebug = none := by kernel_rfl
theorem laidOut : laidOutB Try.prog = true := by kernel_rfl
theorem doFine {d : Dk} (h : d.Fine) (a : Dd) : (dkDo d a).1.Fine := by
  cases hok : dkOk d
  · rw [do_no hok]
    exact ⟨⟨by simp [noDk, noTg], by simp [noDk, noTg], by simp [noDk, noTg], fun k => by simp [noDk, noTg], by simp [noDk, noTg]⟩, by simp [noDk], by simp [noDk], fun k => by simp [noDk]⟩
  · have h1 := do_ok (a := a) hok
    exact fine_of_ok h1.1 (by rw [h1.2]; exact h.t)
/-- A desk's marks leave a desk's box. -/
theorem Row5.leaves {w w' : World} {g B : Nat} {v c0 c1 c2 c3 c4 : Value} {d : Dk} (h : Row5 w g c0 c1 c2 c3 c4) (ho : OwnDk w B v d) (hl : LeavesD v w w') : Row5 w' g c0 c1 c2 c3 c4 := by
  obtain ⟨v1, v2, v3, v5, e, ht, h5, -⟩ := ho.ex
  obtain ⟨u1, u2, u3, e0, o1, o2, o3, -⟩ := ht.ex
  cases e0
  refine hl _ _ _ _ _ ⟨_, _, _, _, _, e, fun k hk => ⟨fun h1 => ?_, fun h1 => ?_, fun h1 => ?_, fun h1 => ?_⟩⟩ h
  · exact own_type_ne o1 h (by decide) k h1 hk
  · exact own_type_ne o2 h (by decide) k h1 hk
  · exact own_type_ne o3 h (by decide) k h1 hk
  · rcases h5.ex with o5 | ⟨z, g', cap, o5, rfl⟩
    · exact own_type_ne o5 h (by decide) k h1 hk
    · exact own_type_ne o5 h (by decide) k h1 hk
/-- What is known of the operations that have come up. -/
structure XD5 (V : World) (B : Nat) (DV EV : Value) (d u : Dk) (ok : Bool) (l : Array Bool) (w : World) (s6 s7 s21 s22 s23 s24 s25 s26 s27 s28 : Value) : Prop where
  f0 : l.getD 0 false = true → s22 = DV
  f1 : l.getD 1 false = true → OwnDk w B s23 d
  f2 : l.getD 2 false = true → s24 = EV
  f3 : l.getD 3 false = true → s25 = EV
  f4 : l.getD 4 false = true → ∃ x y, s26 = .tuple #[x, y] ∧ MDk w B x u ∧ y = .bool ok
  f5 : l.getD 5 false = true → ∃ x y, s21 = .tuple #[x, y] ∧ MDk w B x u ∧ y = .bool ok
  f6 : l.getD 6 false = true → MDk w B s27 u
  f7 : l.getD 7 false = true → s28 = .bool ok
  f8 : l.getD 8 false = true → ∃ q, s6 = .pointer (some ⟨q, 0, none⟩) ∧ V.heap.size ≤ q ∧ (l.getD 9 false = false → Blk w q 28 #[.slice none 0 0, .slice none 0 0, .slice none 0 0, .int .i64 0, .slice none 0 0])
  f9 : l.getD 9 false = true → ∃ (q : Nat) (u0 u1 u2 u3 u4 : Value), s6 = .pointer (some ⟨q, 0, none⟩) ∧ V.heap.size ≤ q ∧ Blk w q 28 #[u0, u1, u2, u3, u4] ∧ MDk w B (.agg #[u0, u1, u2, u3, u4]) u
  f10 : l.getD 10 false = true → s7 = .bool ok
  da : l.getD 9 false = true → l.getD 8 false = true
  low : Below V.heap.size V w
section
variable {V : World} {B : Nat} {DV EV : Value} {d u : Dk} {ok : Bool} {l : Array Bool} {w w' : World} {s6 s7 s21 s22 s23 s24 s25 s26 s27 s28 v : Value}
theorem XD5.up0 (h : XD5 V B DV EV d u ok l w s6 s7 s21 s22 s23 s24 s25 s26 s27 s28) (hv : v = DV) : XD5 V B DV EV d u ok (l.setIfInBounds 0 true) w s6 s7 s21 v s23 s24 s25 s26 s27 s28 := by
  exact ⟨(fun _ => hv), (fun h' => h.f1 (listed_set h' (by decide))), (fun h' => h.f2 (listed_set h' (by decide))), (fun h' => h.f3 (listed_set h' (by decide))), (fun h' => h.f4 (listed_set h' (by decide))), (fun h' => h.f5 (listed_set h' (by decide))), (fun h' => h.f6 (listed_set h' (by decide))), (fun h' => h.f7 (listed_set h' (by decide))), (fun h' => (let ⟨q, e, hq, hh⟩ := h.f8 (listed_set h' (by decide)); ⟨q, e, hq, fun hn => hh (by rwa [listed_same (by decide)] at hn)⟩)), (fun h' => h.f9 (listed_set h' (by decide))), (fun h' => h.f10 (listed_set h' (by decide))), (fun h' => by rw [listed_same (by decide)] at h' ⊢; exact h.da h'), h.low⟩
theorem XD5.up1 (h : XD5 V B DV EV d u ok l w s6 s7 s21 s22 s23 s24 s25 s26 s27 s28) (hv : OwnDk w' B v d) (hb : Below w.heap.size w w') : XD5 V B DV EV d u ok (l.setIfInBounds 1 true) w' s6 s7 s21 s22 v s24 s25 s26 s27 s28 := by
  exact ⟨(fun h' => h.f0 (listed_set h' (by decide))), (fun _ => hv), (fun h' => h.f2 (listed_set h' (by decide))), (fun h' => h.f3 (listed_set h' (by decide))), (fun h' => (let ⟨x, y, e, hp, hq⟩ := h.f4 (listed_set h' (by decide)); ⟨x, y, e, MDk.below (hp) hb (Nat.le_refl _), hq⟩)), (fun h' => (let ⟨x, y, e, hp, hq⟩ := h.f5 (listed_set h' (by decide)); ⟨x, y, e, MDk.below (hp) hb (Nat.le_refl _), hq⟩)), (fun h' => MDk.below (h.f6 (listed_set h' (by decide))) hb (Nat.le_refl _)), (fun h' => h.f7 (listed_set h' (by decide))), (fun h' => (let ⟨q, e, hq, hh⟩ := h.f8 (listed_set h' (by decide)); ⟨q, e, hq, fun hn => let b := hh (by rwa [listed_same (by decide)] at hn); b.below hb b.lt⟩)), (fun h' => (let ⟨q, u0, u1, u2, u3, u4, e, hq, b, ho⟩ := h.f9 (listed_set h' (by decide)); ⟨q, u0, u1, u2, u3, u4, e, hq, b.below hb b.lt, MDk.below (ho) hb (Nat.le_refl _)⟩)), (fun h' => h.f10 (listed_set h' (by decide))), (fun h' => by rw [listed_same (by decide)] at h' ⊢; exact h.da h'), h.low.trans (hb.mono h.low.size)⟩
theorem XD5.up2 (h : XD5 V B DV EV d u ok l w s6 s7 s21 s22 s23 s24 s25 s26 s27 s28) (hv : v = EV) : XD5 V B DV EV d u ok (l.setIfInBounds 2 true) w s6 s7 s21 s22 s23 v s25 s26 s27 s28 := by
  exact ⟨(fun h' => h.f0 (listed_set h' (by decide))), (fun h' => h.f1 (listed_set h' (by decide))), (fun _ => hv), (fun h' => h.f3 (listed_set h' (by decide))), (fun h' => h.f4 (listed_set h' (by decide))), (fun h' => h.f5 (listed_set h' (by decide))), (fun h' => h.f6 (listed_set h' (by decide))), (fun h' => h.f7 (listed_set h' (by decide))), (fun h' => (let ⟨q, e, hq, hh⟩ := h.f8 (listed_set h' (by decide)); ⟨q, e, hq, fun hn => hh (by rwa [listed_same (by decide)] at hn)⟩)), (fun h' => h.f9 (listed_set h' (by decide))), (fun h' => h.f10 (listed_set h' (by decide))), (fun h' => by rw [listed_same (by decide)] at h' ⊢; exact h.da h'), h.low⟩
theorem XD5.up3 (h : XD5 V B DV EV d u ok l w s6 s7 s21 s22 s23 s24 s25 s26 s27 s28) (hv : v = EV) (hb : Below w.heap.size w w') : XD5 V B DV EV d u ok (l.setIfInBounds 3 true) w' s6 s7 s21 s22 s23 s24 v s26 s27 s28 := by
  exact ⟨(fun h' => h.f0 (listed_set h' (by decide))), (fun h' => OwnDk.below (h.f1 (listed_set h' (by decide))) hb (Nat.le_refl _)), (fun h' => h.f2 (listed_set h' (by decide))), (fun _ => hv), (fun h' => (let ⟨x, y, e, hp, hq⟩ := h.f4 (listed_set h' (by decide)); ⟨x, y, e, MDk.below (hp) hb (Nat.le_refl _), hq⟩)), (fun h' => (let ⟨x, y, e, hp, hq⟩ := h.f5 (listed_set h' (by decide)); ⟨x, y, e, MDk.below (hp) hb (Nat.le_refl _), hq⟩)), (fun h' => MDk.below (h.f6 (listed_set h' (by decide))) hb (Nat.le_refl _)), (fun h' => h.f7 (listed_set h' (by decide))), (fun h' => (let ⟨q, e, hq, hh⟩ := h.f8 (listed_set h' (by decide)); ⟨q, e, hq, fun hn => let b := hh (by rwa [listed_same (by decide)] at hn); b.below hb b.lt⟩)), (fun h' => (let ⟨q, u0, u1, u2, u3, u4, e, hq, b, ho⟩ := h.f9 (listed_set h' (by decide)); ⟨q, u0, u1, u2, u3, u4, e, hq, b.below hb b.lt, MDk.below (ho) hb (Nat.le_refl _)⟩)), (fun h' => h.f10 (listed_set h' (by decide))), (fun h' => by rw [listed_same (by decide)] at h' ⊢; exact h.da h'), h.low.trans (hb.mono h.low.size)⟩
theorem XD5.up4 (h : XD5 V B DV EV d u ok l w s6 s7 s21 s22 s23 s24 s25 s26 s27 s28) (hv : ∃ x y, v = .tuple #[x, y] ∧ MDk w' B x u ∧ y = .bool ok) (hb : Below w.heap.size w w') : XD5 V B DV EV d u ok (l.setIfInBounds 4 true) w' s6 s7 s21 s22 s23 s24 s25 v s27 s28 := by
  exact ⟨(fun h' => h.f0 (listed_set h' (by decide))), (fun h' => OwnDk.below (h.f1 (listed_set h' (by decide))) hb (Nat.le_refl _)), (fun h' => h.f2 (listed_set h' (by decide))), (fun h' => h.f3 (listed_set h' (by decide))), (fun _ => hv), (fun h' => (let ⟨x, y, e, hp, hq⟩ := h.f5 (listed_set h' (by decide)); ⟨x, y, e, MDk.below (hp) hb (Nat.le_refl _), hq⟩)), (fun h' => MDk.below (h.f6 (listed_set h' (by decide))) hb (Nat.le_refl _)), (fun h' => h.f7 (listed_set h' (by decide))), (fun h' => (let ⟨q, e, hq, hh⟩ := h.f8 (listed_set h' (by decide)); ⟨q, e, hq, fun hn => let b := hh (by rwa [listed_same (by decide)] at hn); b.below hb b.lt⟩)), (fun h' => (let ⟨q, u0, u1, u2, u3, u4, e, hq, b, ho⟩ := h.f9 (listed_set h' (by decide)); ⟨q, u0, u1, u2, u3, u4, e, hq, b.below hb b.lt, MDk.below (ho) hb (Nat.le_refl _)⟩)), (fun h' => h.f10 (listed_set h' (by decide))), (fun h' => by rw [listed_same (by decide)] at h' ⊢; exact h.da h'), h.low.trans (hb.mono h.low.size)⟩
theorem XD5.up5 (h : XD5 V B DV EV d u ok l w s6 s7 s21 s22 s23 s24 s25 s26 s27 s28) (hv : ∃ x y, v = .tuple #[x, y] ∧ MDk w B x u ∧ y = .bool ok) : XD5 V B DV EV d u ok (l.setIfInBounds 5 true) w s6 s7 v s22 s23 s24 s25 s26 s27 s28 := by
  exact ⟨(fun h' => h.f0 (listed_set h' (by decide))), (fun h' => h.f1 (listed_set h' (by decide))), (fun h' => h.f2 (listed_set h' (by decide))), (fun h' => h.f3 (listed_set h' (by decide))), (fun h' => h.f4 (listed_set h' (by decide))), (fun _ => hv), (fun h' => h.f6 (listed_set h' (by decide))), (fun h' => h.f7 (listed_set h' (by decide))), (fun h' => (let ⟨q, e, hq, hh⟩ := h.f8 (listed_set h' (by decide)); ⟨q, e, hq, fun hn => hh (by rwa [listed_same (by decide)] at hn)⟩)), (fun h' => h.f9 (listed_set h' (by decide))), (fun h' => h.f10 (listed_set h' (by decide))), (fun h' => by rw [listed_same (by decide)] at h' ⊢; exact h.da h'), h.low⟩
theorem XD5.up6 (h : XD5 V B DV EV d u ok l w s6 s7 s21 s22 s23 s24 s25 s26 s27 s28) (hv : MDk w B v u) : XD5 V B DV EV d u ok (l.setIfInBounds 6 true) w s6 s7 s21 s22 s23 s24 s25 s26 v s28 := by
  exact ⟨(fun h' => h.f0 (listed_set h' (by decide))), (fun h' => h.f1 (listed_set h' (by decide))), (fun h' => h.f2 (listed_set h' (by decide))), (fun h' => h.f3 (listed_set h' (by decide))), (fun h' => h.f4 (listed_set h' (by decide))), (fun h' => h.f5 (listed_set h' (by decide))), (fun _ => hv), (fun h' => h.f7 (listed_set h' (by decide))), (fun h' => (let ⟨q, e, hq, hh⟩ := h.f8 (listed_set h' (by decide)); ⟨q, e, hq, fun hn => hh (by rwa [listed_same (by decide)] at hn)⟩)), (fun h' => h.f9 (listed_set h' (by decide))), (fun h' => h.f10 (listed_set h' (by decide))), (fun h' => by rw [listed_same (by decide)] at h' ⊢; exact h.da h'), h.low⟩
theorem XD5.up7 (h : XD5 V B DV EV d u ok l w s6 s7 s21 s22 s23 s24 s25 s26 s27 s28) (hv : v = .bool ok) : XD5 V B DV EV d u ok (l.setIfInBounds 7 true) w s6 s7 s21 s22 s23 s24 s25 s26 s27 v := by
  exact ⟨(fun h' => h.f0 (listed_set h' (by decide))), (fun h' => h.f1 (listed_set h' (by decide))), (fun h' => h.f2 (listed_set h' (by decide))), (fun h' => h.f3 (listed_set h' (by decide))), (fun h' => h.f4 (listed_set h' (by decide))), (fun h' => h.f5 (listed_set h' (by decide))), (fun h' => h.f6 (listed_set h' (by decide))), (fun _ => hv), (fun h' => (let ⟨q, e, hq, hh⟩ := h.f8 (listed_set h' (by decide)); ⟨q, e, hq, fun hn => hh (by rwa [listed_same (by decide)] at hn)⟩)), (fun h' => h.f9 (listed_set h' (by decide))), (fun h' => h.f10 (listed_set h' (by decide))), (fun h' => by rw [listed_same (by decide)] at h' ⊢; exact h.da h'), h.low⟩
theorem XD5.up8 (h : XD5 V B DV EV d u ok l w s6 s7 s21 s22 s23 s24 s25 s26 s27 s28) (hsz : l.size = 11) (hun : l.getD 8 false = false) : XD5 V B DV EV d u ok (l.setIfInBounds 8 true) (w.alloc (.cells #[.slice none 0 0, .slice none 0 0, .slice none 0 0, .int .i64 0, .slice none 0 0] 28)) (.pointer (some ⟨w.heap.size, 0, none⟩)) s7 s21 s22 s23 s24 s25 s26 s27 s28 := by
  have hb := (Below.refl w.heap.size w).alloc (Nat.le_refl _) (.cells #[.slice none 0 0, .slice none 0 0, .slice none 0 0, .int .i64 0, .slice none 0 0] 28)
  exact ⟨(fun h' => h.f0 (listed_set h' (by decide))), (fun h' => OwnDk.below (h.f1 (listed_set h' (by decide))) hb (Nat.le_refl _)), (fun h' => h.f2 (listed_set h' (by decide))), (fun h' => h.f3 (listed_set h' (by decide))), (fun h' => (let ⟨x, y, e, hp, hq⟩ := h.f4 (listed_set h' (by decide)); ⟨x, y, e, MDk.below (hp) hb (Nat.le_refl _), hq⟩)), (fun h' => (let ⟨x, y, e, hp, hq⟩ := h.f5 (listed_set h' (by decide)); ⟨x, y, e, MDk.below (hp) hb (Nat.le_refl _), hq⟩)), (fun h' => MDk.below (h.f6 (listed_set h' (by decide))) hb (Nat.le_refl _)), (fun h' => h.f7 (listed_set h' (by decide))), (fun _ => ⟨w.heap.size, rfl, h.low.size, fun _ => Blk.new _ _ _⟩), (fun h' => absurd (h.da (listed_set h' (by decide))) (by rw [hun]; simp)), (fun h' => h.f10 (listed_set h' (by decide))), (fun _ => listed_at (by omega)), h.low.trans (hb.mono h.low.size)⟩
theorem XD5.up9 (h : XD5 V B DV EV d u ok l w s6 s7 s21 s22 s23 s24 s25 s26 s27 s28) (hsz : l.size = 11) {q : Nat} {u0 u1 u2 u3 u4 : Value} (hA : l.getD 8 false = true) (e8 : s6 = .pointer (some ⟨q, 0, none⟩)) (hq : V.heap.size ≤ q) (hz : Blk w q 28 #[.slice none 0 0, .slice none 0 0, .slice none 0 0, .int .i64 0, .slice none 0 0]) (ho : MDk w B (.agg #[u0, u1, u2, u3, u4]) u) : XD5 V B DV EV d u ok (l.setIfInBounds 9 true) (((((w.setCell ⟨q, 0, none⟩ u0).setCell ⟨q, 1, none⟩ u1).setCell ⟨q, 2, none⟩ u2).setCell ⟨q, 3, none⟩ u3).setCell ⟨q, 4, none⟩ u4) s6 s7 s21 s22 s23 s24 s25 s26 s27 s28 := by
  exact ⟨(fun h' => h.f0 (listed_set h' (by decide))), (fun h' => OwnDk.set5 (h.f1 (listed_set h' (by decide))) hz), (fun h' => h.f2 (listed_set h' (by decide))), (fun h' => h.f3 (listed_set h' (by decide))), (fun h' => (let ⟨x, y, e, hp, hq⟩ := h.f4 (listed_set h' (by decide)); ⟨x, y, e, own_md5 (hp) hz, hq⟩)), (fun h' => (let ⟨x, y, e, hp, hq⟩ := h.f5 (listed_set h' (by decide)); ⟨x, y, e, own_md5 (hp) hz, hq⟩)), (fun h' => own_md5 (h.f6 (listed_set h' (by decide))) hz), (fun h' => h.f7 (listed_set h' (by decide))), (fun h' => (let ⟨q, e, hq, hh⟩ := h.f8 (listed_set h' (by decide)); ⟨q, e, hq, fun hn => by rw [listed_at (by omega)] at hn; cases hn⟩)), (fun _ => ⟨q, u0, u1, u2, u3, u4, e8, hq, hz.set5 u0 u1 u2 u3 u4, own_md5 (ho) hz⟩), (fun h' => h.f10 (listed_set h' (by decide))), (fun _ => by rw [listed_same (by decide)]; exact hA), below_dk5 h.low hq⟩
theorem XD5.up10 (h : XD5 V B DV EV d u ok l w s6 s7 s21 s22 s23 s24 s25 s26 s27 s28) (hv : v = .bool ok) : XD5 V B DV EV d u ok (l.setIfInBounds 10 true) w s6 v s21 s22 s23 s24 s25 s26 s27 s28 := by
  exact ⟨(fun h' => h.f0 (listed_set h' (by decide))), (fun h' => h.f1 (listed_set h' (by decide))), (fun h' => h.f2 (listed_set h' (by decide))), (fun h' => h.f3 (listed_set h' (by decide))), (fun h' => h.f4 (listed_set h' (by decide))), (fun h' => h.f5 (listed_set h' (by decide))), (fun h' => h.f6 (listed_set h' (by decide))), (fun h' => h.f7 (listed_set h' (by decide))), (fun h' => (let ⟨q, e, hq, hh⟩ := h.f8 (listed_set h' (by decide)); ⟨q, e, hq, fun hn => hh (by rwa [listed_same (by decide)] at hn)⟩)), (fun h' => h.f9 (listed_set h' (by decide))), (fun _ => hv), (fun h' => by rw [listed_same (by decide)] at h' ⊢; exact h.da h'), h.low⟩
end
/-- What is known of the operations that have come up. -/
structure XD7 (V : World) (B : Nat) (DV EV : Value) (u : Dk) (ok : Bool) (l : Array Bool) (w : World) (s9 s10 s31 s32 s33 s34 s35 s36 s37 : Value) : Prop where
  f0 : l.getD 0 false = true → s32 = DV
  f1 : l.getD 1 false = true → s33 = EV
  f2 : l.getD 2 false = true → s34 = EV
  f3 : l.getD 3 false = true → ∃ x y, s35 = .tuple #[x, y] ∧ OwnDk w B x u ∧ y = .bool ok
  f4 : l.getD 4 false = true → ∃ x y, s31 = .tuple #[x, y] ∧ OwnDk w B x u ∧ y = .bool ok
  f5 : l.getD 5 false = true → OwnDk w B s36 u
  f6 : l.getD 6 false = true → s37 = .bool ok
  f7 : l.getD 7 false = true → ∃ q, s9 = .pointer (some ⟨q, 0, none⟩) ∧ V.heap.size ≤ q ∧ (l.getD 8 false = false → Blk w q 28 #[.slice none 0 0, .slice none 0 0, .slice none 0 0, .int .i64 0, .slice none 0 0])
  f8 : l.getD 8 false = true → ∃ (q : Nat) (u0 u1 u2 u3 u4 : Value), s9 = .pointer (some ⟨q, 0, none⟩) ∧ V.heap.size ≤ q ∧ Blk w q 28 #[u0, u1, u2, u3, u4] ∧ OwnDk w B (.agg #[u0, u1, u2, u3, u4]) u
  f9 : l.getD 9 false = true → s10 = .bool ok
  da : l.getD 8 false = true → l.getD 7 false = true
  low : Below V.heap.size V w
section
variable {V : World} {B : Nat} {DV EV : Value} {u : Dk} {ok : Bool} {l : Array Bool} {w w' : World} {s9 s10 s31 s32 s33 s34 s35 s36 s37 v : Value}
theorem XD7.up0 (h : XD7 V B DV EV u ok l w s9 s10 s31 s32 s33 s34 s35 s36 s37) (hv : v = DV) : XD7 V B DV EV u ok (l.setIfInBounds 0 true) w s9 s10 s31 v s33 s34 s35 s36 s37 := by
  exact ⟨(fun _ => hv), (fun h' => h.f1 (listed_set h' (by decide))), (fun h' => h.f2 (listed_set h' (by decide))), (fun h' => h.f3 (listed_set h' (by decide))), (fun h' => h.f4 (listed_set h' (by decide))), (fun h' => h.f5 (listed_set h' (by decide))), (fun h' => h.f6 (listed_set h' (by decide))), (fun h' => (let ⟨q, e, hq, hh⟩ := h.f7 (listed_set h' (by decide)); ⟨q, e, hq, fun hn => hh (by rwa [listed_same (by decide)] at hn)⟩)), (fun h' => h.f8 (listed_set h' (by decide))), (fun h' => h.f9 (listed_set h' (by decide))), (fun h' => by rw [listed_same (by decide)] at h' ⊢; exact h.da h'), h.low⟩
theorem XD7.up1 (h : XD7 V B DV EV u ok l w s9 s10 s31 s32 s33 s34 s35 s36 s37) (hv : v = EV) : XD7 V B DV EV u ok (l.setIfInBounds 1 true) w s9 s10 s31 s32 v s34 s35 s36 s37 := by
  exact ⟨(fun h' => h.f0 (listed_set h' (by decide))), (fun _ => hv), (fun h' => h.f2 (listed_set h' (by decide))), (fun h' => h.f3 (listed_set h' (by decide))), (fun h' => h.f4 (listed_set h' (by decide))), (fun h' => h.f5 (listed_set h' (by decide))), (fun h' => h.f6 (listed_set h' (by decide))), (fun h' => (let ⟨q, e, hq, hh⟩ := h.f7 (listed_set h' (by decide)); ⟨q, e, hq, fun hn => hh (by rwa [listed_same (by decide)] at hn)⟩)), (fun h' => h.f8 (listed_set h' (by decide))), (fun h' => h.f9 (listed_set h' (by decide))), (fun h' => by rw [listed_same (by decide)] at h' ⊢; exact h.da h'), h.low⟩
theorem XD7.up2 (h : XD7 V B DV EV u ok l w s9 s10 s31 s32 s33 s34 s35 s36 s37) (hv : v = EV) (hb : Below w.heap.size w w') : XD7 V B DV EV u ok (l.setIfInBounds 2 true) w' s9 s10 s31 s32 s33 v s35 s36 s37 := by
  exact ⟨(fun h' => h.f0 (listed_set h' (by decide))), (fun h' => h.f1 (listed_set h' (by decide))), (fun _ => hv), (fun h' => (let ⟨x, y, e, hp, hq⟩ := h.f3 (listed_set h' (by decide)); ⟨x, y, e, OwnDk.below (hp) hb (Nat.le_refl _), hq⟩)), (fun h' => (let ⟨x, y, e, hp, hq⟩ := h.f4 (listed_set h' (by decide)); ⟨x, y, e, OwnDk.below (hp) hb (Nat.le_refl _), hq⟩)), (fun h' => OwnDk.below (h.f5 (listed_set h' (by decide))) hb (Nat.le_refl _)), (fun h' => h.f6 (listed_set h' (by decide))), (fun h' => (let ⟨q, e, hq, hh⟩ := h.f7 (listed_set h' (by decide)); ⟨q, e, hq, fun hn => let b := hh (by rwa [listed_same (by decide)] at hn); b.below hb b.lt⟩)), (fun h' => (let ⟨q, u0, u1, u2, u3, u4, e, hq, b, ho⟩ := h.f8 (listed_set h' (by decide)); ⟨q, u0, u1, u2, u3, u4, e, hq, b.below hb b.lt, OwnDk.below (ho) hb (Nat.le_refl _)⟩)), (fun h' => h.f9 (listed_set h' (by decide))), (fun h' => by rw [listed_same (by decide)] at h' ⊢; exact h.da h'), h.low.trans (hb.mono h.low.size)⟩
theorem XD7.up3 (h : XD7 V B DV EV u ok l w s9 s10 s31 s32 s33 s34 s35 s36 s37) (hv : ∃ x y, v = .tuple #[x, y] ∧ OwnDk w' B x u ∧ y = .bool ok) (hb : Below w.heap.size w w') : XD7 V B DV EV u ok (l.setIfInBounds 3 true) w' s9 s10 s31 s32 s33 s34 v s36 s37 := by
  exact ⟨(fun h' => h.f0 (listed_set h' (by decide))), (fun h' => h.f1 (listed_set h' (by decide))), (fun h' => h.f2 (listed_set h' (by decide))), (fun _ => hv), (fun h' => (let ⟨x, y, e, hp, hq⟩ := h.f4 (listed_set h' (by decide)); ⟨x, y, e, OwnDk.below (hp) hb (Nat.le_refl _), hq⟩)), (fun h' => OwnDk.below (h.f5 (listed_set h' (by decide))) hb (Nat.le_refl _)), (fun h' => h.f6 (listed_set h' (by decide))), (fun h' => (let ⟨q, e, hq, hh⟩ := h.f7 (listed_set h' (by decide)); ⟨q, e, hq, fun hn => let b := hh (by rwa [listed_same (by decide)] at hn); b.below hb b.lt⟩)), (fun h' => (let ⟨q, u0, u1, u2, u3, u4, e, hq, b, ho⟩ := h.f8 (listed_set h' (by decide)); ⟨q, u0, u1, u2, u3, u4, e, hq, b.below hb b.lt, OwnDk.below (ho) hb (Nat.le_refl _)⟩)), (fun h' => h.f9 (listed_set h' (by decide))), (fun h' => by rw [listed_same (by decide)] at h' ⊢; exact h.da h'), h.low.trans (hb.mono h.low.size)⟩
theorem XD7.up4 (h : XD7 V B DV EV u ok l w s9 s10 s31 s32 s33 s34 s35 s36 s37) (hv : ∃ x y, v = .tuple #[x, y] ∧ OwnDk w B x u ∧ y = .bool ok) : XD7 V B DV EV u ok (l.setIfInBounds 4 true) w s9 s10 v s32 s33 s34 s35 s36 s37 := by
  exact ⟨(fun h' => h.f0 (listed_set h' (by decide))), (fun h' => h.f1 (listed_set h' (by decide))), (fun h' => h.f2 (listed_set h' (by decide))), (fun h' => h.f3 (listed_set h' (by decide))), (fun _ => hv), (fun h' => h.f5 (listed_set h' (by decide))), (fun h' => h.f6 (listed_set h' (by decide))), (fun h' => (let ⟨q, e, hq, hh⟩ := h.f7 (listed_set h' (by decide)); ⟨q, e, hq, fun hn => hh (by rwa [listed_same (by decide)] at hn)⟩)), (fun h' => h.f8 (listed_set h' (by decide))), (fun h' => h.f9 (listed_set h' (by decide))), (fun h' => by rw [listed_same (by decide)] at h' ⊢; exact h.da h'), h.low⟩
theorem XD7.up5 (h : XD7 V B DV EV u ok l w s9 s10 s31 s32 s33 s34 s35 s36 s37) (hv : OwnDk w B v u) : XD7 V B DV EV u ok (l.setIfInBounds 5 true) w s9 s10 s31 s32 s33 s34 s35 v s37 := by
  exact ⟨(fun h' => h.f0 (listed_set h' (by decide))), (fun h' => h.f1 (listed_set h' (by decide))), (fun h' => h.f2 (listed_set h' (by decide))), (fun h' => h.f3 (listed_set h' (by decide))), (fun h' => h.f4 (listed_set h' (by decide))), (fun _ => hv), (fun h' => h.f6 (listed_set h' (by decide))), (fun h' => (let ⟨q, e, hq, hh⟩ := h.f7 (listed_set h' (by decide)); ⟨q, e, hq, fun hn => hh (by rwa [listed_same (by decide)] at hn)⟩)), (fun h' => h.f8 (listed_set h' (by decide))), (fun h' => h.f9 (listed_set h' (by decide))), (fun h' => by rw [listed_same (by decide)] at h' ⊢; exact h.da h'), h.low⟩
theorem XD7.up6 (h : XD7 V B DV EV u ok l w s9 s10 s31 s32 s33 s34 s35 s36 s37) (hv : v = .bool ok) : XD7 V B DV EV u ok (l.setIfInBounds 6 true) w s9 s10 s31 s32 s33 s34 s35 s36 v := by
  exact ⟨(fun h' => h.f0 (listed_set h' (by decide))), (fun h' => h.f1 (listed_set h' (by decide))), (fun h' => h.f2 (listed_set h' (by decide))), (fun h' => h.f3 (listed_set h' (by decide))), (fun h' => h.f4 (listed_set h' (by decide))), (fun h' => h.f5 (listed_set h' (by decide))), (fun _ => hv), (fun h' => (let ⟨q, e, hq, hh⟩ := h.f7 (listed_set h' (by decide)); ⟨q, e, hq, fun hn => hh (by rwa [listed_same (by decide)] at hn)⟩)), (fun h' => h.f8 (listed_set h' (by decide))), (fun h' => h.f9 (listed_set h' (by decide))), (fun h' => by rw [listed_same (by decide)] at h' ⊢; exact h.da h'), h.low⟩
theorem XD7.up7 (h : XD7 V B DV EV u ok l w s9 s10 s31 s32 s33 s34 s35 s36 s37) (hsz : l.size = 10) (hun : l.getD 7 false = false) : XD7 V B DV EV u ok (l.setIfInBounds 7 true) (w.alloc (.cells #[.slice none 0 0, .slice none 0 0, .slice none 0 0, .int .i64 0, .slice none 0 0] 28)) (.pointer (some ⟨w.heap.size, 0, none⟩)) s10 s31 s32 s33 s34 s35 s36 s37 := by
  have hb := (Below.refl w.heap.size w).alloc (Nat.le_refl _) (.cells #[.slice none 0 0, .slice none 0 0, .slice none 0 0, .int .i64 0, .slice none 0 0] 28)
  exact ⟨(fun h' => h.f0 (listed_set h' (by decide))), (fun h' => h.f1 (listed_set h' (by decide))), (fun h' => h.f2 (listed_set h' (by decide))), (fun h' => (let ⟨x, y, e, hp, hq⟩ := h.f3 (listed_set h' (by decide)); ⟨x, y, e, OwnDk.below (hp) hb (Nat.le_refl _), hq⟩)), (fun h' => (let ⟨x, y, e, hp, hq⟩ := h.f4 (listed_set h' (by decide)); ⟨x, y, e, OwnDk.below (hp) hb (Nat.le_refl _), hq⟩)), (fun h' => OwnDk.below (h.f5 (listed_set h' (by decide))) hb (Nat.le_refl _)), (fun h' => h.f6 (listed_set h' (by decide))), (fun _ => ⟨w.heap.size, rfl, h.low.size, fun _ => Blk.new _ _ _⟩), (fun h' => absurd (h.da (listed_set h' (by decide))) (by rw [hun]; simp)), (fun h' => h.f9 (listed_set h' (by decide))), (fun _ => listed_at (by omega)), h.low.trans (hb.mono h.low.size)⟩
theorem XD7.up8 (h : XD7 V B DV EV u ok l w s9 s10 s31 s32 s33 s34 s35 s36 s37) (hsz : l.size = 10) {q : Nat} {u0 u1 u2 u3 u4 : Value} (hA : l.getD 7 false = true) (e8 : s9 = .pointer (some ⟨q, 0, none⟩)) (hq : V.heap.size ≤ q) (hz : Blk w q 28 #[.slice none 0 0, .slice none 0 0, .slice none 0 0, .int .i64 0, .slice none 0 0]) (ho : OwnDk w B (.agg #[u0, u1, u2, u3, u4]) u) : XD7 V B DV EV u ok (l.setIfInBounds 8 true) (((((w.setCell ⟨q, 0, none⟩ u0).setCell ⟨q, 1, none⟩ u1).setCell ⟨q, 2, none⟩ u2).setCell ⟨q, 3, none⟩ u3).setCell ⟨q, 4, none⟩ u4) s9 s10 s31 s32 s33 s34 s35 s36 s37 := by
  exact ⟨(fun h' => h.f0 (listed_set h' (by decide))), (fun h' => h.f1 (listed_set h' (by decide))), (fun h' => h.f2 (listed_set h' (by decide))), (fun h' => (let ⟨x, y, e, hp, hq⟩ := h.f3 (listed_set h' (by decide)); ⟨x, y, e, OwnDk.set5 (hp) hz, hq⟩)), (fun h' => (let ⟨x, y, e, hp, hq⟩ := h.f4 (listed_set h' (by decide)); ⟨x, y, e, OwnDk.set5 (hp) hz, hq⟩)), (fun h' => OwnDk.set5 (h.f5 (listed_set h' (by decide))) hz), (fun h' => h.f6 (listed_set h' (by decide))), (fun h' => (let ⟨q, e, hq, hh⟩ := h.f7 (listed_set h' (by decide)); ⟨q, e, hq, fun hn => by rw [listed_at (by omega)] at hn; cases hn⟩)), (fun _ => ⟨q, u0, u1, u2, u3, u4, e8, hq, hz.set5 u0 u1 u2 u3 u4, OwnDk.set5 (ho) hz⟩), (fun h' => h.f9 (listed_set h' (by decide))), (fun _ => by rw [listed_same (by decide)]; exact hA), below_dk5 h.low hq⟩
theorem XD7.up9 (h : XD7 V B DV EV u ok l w s9 s10 s31 s32 s33 s34 s35 s36 s37) (hv : v = .bool ok) : XD7 V B DV EV u ok (l.setIfInBounds 9 true) w s9 v s31 s32 s33 s34 s35 s36 s37 := by
  exact ⟨(fun h' => h.f0 (listed_set h' (by decide))), (fun h' => h.f1 (listed_set h' (by decide))), (fun h' => h.f2 (listed_set h' (by decide))), (fun h' => h.f3 (listed_set h' (by decide))), (fun h' => h.f4 (listed_set h' (by decide))), (fun h' => h.f5 (listed_set h' (by decide))), (fun h' => h.f6 (listed_set h' (by decide))), (fun h' => (let ⟨q, e, hq, hh⟩ := h.f7 (listed_set h' (by decide)); ⟨q, e, hq, fun hn => hh (by rwa [listed_same (by decide)] at hn)⟩)), (fun h' => h.f8 (listed_set h' (by decide))), (fun _ => hv), (fun h' => by rw [listed_same (by decide)] at h' ⊢; exact h.da h'), h.low⟩
end
/-- What is known of the operations that have come up. -/
structure XD10 (V : World) (B : Nat) (ZV DV : Value) (d : Dk) (l : Array Bool) (w : World) (s47 s48 s49 s50 s51 : Value) : Prop where
  f0 : l.getD 0 false = true → s47 = ZV
  f1 : l.getD 1 false = true → s48 = DV
  f2 : l.getD 2 false = true → OwnDk w B s49 d
  f3 : l.getD 3 false = true → s50 = .bool true
  f4 : l.getD 4 false = true → s51 = .bool false
  low : Below V.heap.size V w
section
variable {V : World} {B : Nat} {ZV DV : Value} {d : Dk} {l : Array Bool} {w w' : World} {s47 s48 s49 s50 s51 v : Value}
theorem XD10.up0 (h : XD10 V B ZV DV d l w s47 s48 s49 s50 s51) (hv : v = ZV) : XD10 V B ZV DV d (l.setIfInBounds 0 true) w v s48 s49 s50 s51 := by
  exact ⟨(fun _ => hv), (fun h' => h.f1 (listed_set h' (by decide))), (fun h' => h.f2 (listed_set h' (by decide))), (fun h' => h.f3 (listed_set h' (by decide))), (fun h' => h.f4 (listed_set h' (by decide))), h.low⟩
theorem XD10.up1 (h : XD10 V B ZV DV d l w s47 s48 s49 s50 s51) (hv : v = DV) : XD10 V B ZV DV d (l.setIfInBounds 1 true) w s47 v s49 s50 s51 := by
  exact ⟨(fun h' => h.f0 (listed_set h' (by decide))), (fun _ => hv), (fun h' => h.f2 (listed_set h' (by decide))), (fun h' => h.f3 (listed_set h' (by decide))), (fun h' => h.f4 (listed_set h' (by decide))), h.low⟩
theorem XD10.up2 (h : XD10 V B ZV DV d l w s47 s48 s49 s50 s51) (hv : OwnDk w' B v d) (hb : Below w.heap.size w w') : XD10 V B ZV DV d (l.setIfInBounds 2 true) w' s47 s48 v s50 s51 := by
  exact ⟨(fun h' => h.f0 (listed_set h' (by decide))), (fun h' => h.f1 (listed_set h' (by decide))), (fun _ => hv), (fun h' => h.f3 (listed_set h' (by decide))), (fun h' => h.f4 (listed_set h' (by decide))), h.low.trans (hb.mono h.low.size)⟩
theorem XD10.up3 (h : XD10 V B ZV DV d l w s47 s48 s49 s50 s51) (hv : v = .bool true) (hb : Below w.heap.size w w') : XD10 V B ZV DV d (l.setIfInBounds 3 true) w' s47 s48 s49 v s51 := by
  exact ⟨(fun h' => h.f0 (listed_set h' (by decide))), (fun h' => h.f1 (listed_set h' (by decide))), (fun h' => OwnDk.below (h.f2 (listed_set h' (by decide))) hb (Nat.le_refl _)), (fun _ => hv), (fun h' => h.f4 (listed_set h' (by decide))), h.low.trans (hb.mono h.low.size)⟩
theorem XD10.up4 (h : XD10 V B ZV DV d l w s47 s48 s49 s50 s51) (hv : v = .bool false) : XD10 V B ZV DV d (l.setIfInBounds 4 true) w s47 s48 s49 s50 v := by
  exact ⟨(fun h' => h.f0 (listed_set h' (by decide))), (fun h' => h.f1 (listed_set h' (by decide))), (fun h' => h.f2 (listed_set h' (by decide))), (fun h' => h.f3 (listed_set h' (by decide))), (fun _ => hv), h.low⟩
end
/-- What is known of the operations that have come up. -/
structure XD24 (V : World) (B : Nat) (DV EV : Value) (d u : Dk) (ok : Bool) (l : Array Bool) (w : World) (s14 s15 s79 s80 s81 s82 s83 s84 s85 s86 : Value) : Prop where
  f0 : l.getD 0 false = true → s80 = DV
  f1 : l.getD 1 false = true → OwnDk w B s81 d
  f2 : l.getD 2 false = true → s82 = EV
  f3 : l.getD 3 false = true → s83 = EV
  f4 : l.getD 4 false = true → ∃ x y, s84 = .tuple #[x, y] ∧ OwnDk w B x u ∧ y = .bool ok
  f5 : l.getD 5 false = true → ∃ x y, s79 = .tuple #[x, y] ∧ OwnDk w B x u ∧ y = .bool ok
  f6 : l.getD 6 false = true → OwnDk w B s85 u
  f7 : l.getD 7 false = true → s86 = .bool ok
  f8 : l.getD 8 false = true → ∃ q, s14 = .pointer (some ⟨q, 0, none⟩) ∧ V.heap.size ≤ q ∧ (l.getD 9 false = false → Blk w q 28 #[.slice none 0 0, .slice none 0 0, .slice none 0 0, .int .i64 0, .slice none 0 0])
  f9 : l.getD 9 false = true → ∃ (q : Nat) (u0 u1 u2 u3 u4 : Value), s14 = .pointer (some ⟨q, 0, none⟩) ∧ V.heap.size ≤ q ∧ Blk w q 28 #[u0, u1, u2, u3, u4] ∧ OwnDk w B (.agg #[u0, u1, u2, u3, u4]) u
  f10 : l.getD 10 false = true → s15 = .bool ok
  da : l.getD 9 false = true → l.getD 8 false = true
  low : Below V.heap.size V w
section
variable {V : World} {B : Nat} {DV EV : Value} {d u : Dk} {ok : Bool} {l : Array Bool} {w w' : World} {s14 s15 s79 s80 s81 s82 s83 s84 s85 s86 v : Value}
theorem XD24.up0 (h : XD24 V B DV EV d u ok l w s14 s15 s79 s80 s81 s82 s83 s84 s85 s86) (hv : v = DV) : XD24 V B DV EV d u ok (l.setIfInBounds 0 true) w s14 s15 s79 v s81 s82 s83 s84 s85 s86 := by
  exact ⟨(fun _ => hv), (fun h' => h.f1 (listed_set h' (by decide))), (fun h' => h.f2 (listed_set h' (by decide))), (fun h' => h.f3 (listed_set h' (by decide))), (fun h' => h.f4 (listed_set h' (by decide))), (fun h' => h.f5 (listed_set h' (by decide))), (fun h' => h.f6 (listed_set h' (by decide))), (fun h' => h.f7 (listed_set h' (by decide))), (fun h' => (let ⟨q, e, hq, hh⟩ := h.f8 (listed_set h' (by decide)); ⟨q, e, hq, fun hn => hh (by rwa [listed_same (by decide)] at hn)⟩)), (fun h' => h.f9 (listed_set h' (by decide))), (fun h' => h.f10 (listed_set h' (by decide))), (fun h' => by rw [listed_same (by decide)] at h' ⊢; exact h.da h'), h.low⟩
theorem XD24.up1 (h : XD24 V B DV EV d u ok l w s14 s15 s79 s80 s81 s82 s83 s84 s85 s86) (hv : OwnDk w' B v d) (hb : Below w.heap.size w w') : XD24 V B DV EV d u ok (l.setIfInBounds 1 true) w' s14 s15 s79 s80 v s82 s83 s84 s85 s86 := by
  exact ⟨(fun h' => h.f0 (listed_set h' (by decide))), (fun _ => hv), (fun h' => h.f2 (listed_set h' (by decide))), (fun h' => h.f3 (listed_set h' (by decide))), (fun h' => (let ⟨x, y, e, hp, hq⟩ := h.f4 (listed_set h' (by decide)); ⟨x, y, e, OwnDk.below (hp) hb (Nat.le_refl _), hq⟩)), (fun h' => (let ⟨x, y, e, hp, hq⟩ := h.f5 (listed_set h' (by decide)); ⟨x, y, e, OwnDk.below (hp) hb (Nat.le_refl _), hq⟩)), (fun h' => OwnDk.below (h.f6 (listed_set h' (by decide))) hb (Nat.le_refl _)), (fun h' => h.f7 (listed_set h' (by decide))), (fun h' => (let ⟨q, e, hq, hh⟩ := h.f8 (listed_set h' (by decide)); ⟨q, e, hq, fun hn => let b := hh (by rwa [listed_same (by decide)] at hn); b.below hb b.lt⟩)), (fun h' => (let ⟨q, u0, u1, u2, u3, u4, e, hq, b, ho⟩ := h.f9 (listed_set h' (by decide)); ⟨q, u0, u1, u2, u3, u4, e, hq, b.below hb b.lt, OwnDk.below (ho) hb (Nat.le_refl _)⟩)), (fun h' => h.f10 (listed_set h' (by decide))), (fun h' => by rw [listed_same (by decide)] at h' ⊢; exact h.da h'), h.low.trans (hb.mono h.low.size)⟩
theorem XD24.up2 (h : XD24 V B DV EV d u ok l w s14 s15 s79 s80 s81 s82 s83 s84 s85 s86) (hv : v = EV) : XD24 V B DV EV d u ok (l.setIfInBounds 2 true) w s14 s15 s79 s80 s81 v s83 s84 s85 s86 := by
  exact ⟨(fun h' => h.f0 (listed_set h' (by decide))), (fun h' => h.f1 (listed_set h' (by decide))), (fun _ => hv), (fun h' => h.f3 (listed_set h' (by decide))), (fun h' => h.f4 (listed_set h' (by decide))), (fun h' => h.f5 (listed_set h' (by decide))), (fun h' => h.f6 (listed_set h' (by decide))), (fun h' => h.f7 (listed_set h' (by decide))), (fun h' => (let ⟨q, e, hq, hh⟩ := h.f8 (listed_set h' (by decide)); ⟨q, e, hq, fun hn => hh (by rwa [listed_same (by decide)] at hn)⟩)), (fun h' => h.f9 (listed_set h' (by decide))), (fun h' => h.f10 (listed_set h' (by decide))), (fun h' => by rw [listed_same (by decide)] at h' ⊢; exact h.da h'), h.low⟩
theorem XD24.up3 (h : XD24 V B DV EV d u ok l w s14 s15 s79 s80 s81 s82 s83 s84 s85 s86) (hv : v = EV) (hb : Below w.heap.size w w') : XD24 V B DV EV d u ok (l.setIfInBounds 3 true) w' s14 s15 s79 s80 s81 s82 v s84 s85 s86 := by
  exact ⟨(fun h' => h.f0 (listed_set h' (by decide))), (fun h' => OwnDk.below (h.f1 (listed_set h' (by decide))) hb (Nat.le_refl _)), (fun h' => h.f2 (listed_set h' (by decide))), (fun _ => hv), (fun h' => (let ⟨x, y, e, hp, hq⟩ := h.f4 (listed_set h' (by decide)); ⟨x, y, e, OwnDk.below (hp) hb (Nat.le_refl _), hq⟩)), (fun h' => (let ⟨x, y, e, hp, hq⟩ := h.f5 (listed_set h' (by decide)); ⟨x, y, e, OwnDk.below (hp) hb (Nat.le_refl _), hq⟩)), (fun h' => OwnDk.below (h.f6 (listed_set h' (by decide))) hb (Nat.le_refl _)), (fun h' => h.f7 (listed_set h' (by decide))), (fun h' => (let ⟨q, e, hq, hh⟩ := h.f8 (listed_set h' (by decide)); ⟨q, e, hq, fun hn => let b := hh (by rwa [listed_same (by decide)] at hn); b.below hb b.lt⟩)), (fun h' => (let ⟨q, u0, u1, u2, u3, u4, e, hq, b, ho⟩ := h.f9 (listed_set h' (by decide)); ⟨q, u0, u1, u2, u3, u4, e, hq, b.below hb b.lt, OwnDk.below (ho) hb (Nat.le_refl _)⟩)), (fun h' => h.f10 (listed_set h' (by decide))), (fun h' => by rw [listed_same (by decide)] at h' ⊢; exact h.da h'), h.low.trans (hb.mono h.low.size)⟩
theorem XD24.up4 (h : XD24 V B DV EV d u ok l w s14 s15 s79 s80 s81 s82 s83 s84 s85 s86) (hv : ∃ x y, v = .tuple #[x, y] ∧ OwnDk w' B x u ∧ y = .bool ok) (hb : Below w.heap.size w w') : XD24 V B DV EV d u ok (l.setIfInBounds 4 true) w' s14 s15 s79 s80 s81 s82 s83 v s85 s86 := by
  exact ⟨(fun h' => h.f0 (listed_set h' (by decide))), (fun h' => OwnDk.below (h.f1 (listed_set h' (by decide))) hb (Nat.le_refl _)), (fun h' => h.f2 (listed_set h' (by decide))), (fun h' => h.f3 (listed_set h' (by decide))), (fun _ => hv), (fun h' => (let ⟨x, y, e, hp, hq⟩ := h.f5 (listed_set h' (by decide)); ⟨x, y, e, OwnDk.below (hp) hb (Nat.le_refl _), hq⟩)), (fun h' => OwnDk.below (h.f6 (listed_set h' (by decide))) hb (Nat.le_refl _)), (fun h' => h.f7 (listed_set h' (by decide))), (fun h' => (let ⟨q, e, hq, hh⟩ := h.f8 (listed_set h' (by decide)); ⟨q, e, hq, fun hn => let b := hh (by rwa [listed_same (by decide)] at hn); b.below hb b.lt⟩)), (fun h' => (let ⟨q, u0, u1, u2, u3, u4, e, hq, b, ho⟩ := h.f9 (listed_set h' (by decide)); ⟨q, u0, u1, u2, u3, u4, e, hq, b.below hb b.lt, OwnDk.below (ho) hb (Nat.le_refl _)⟩)), (fun h' => h.f10 (listed_set h' (by decide))), (fun h' => by rw [listed_same (by decide)] at h' ⊢; exact h.da h'), h.low.trans (hb.mono h.low.size)⟩
theorem XD24.up5 (h : XD24 V B DV EV d u ok l w s14 s15 s79 s80 s81 s82 s83 s84 s85 s86) (hv : ∃ x y, v = .tuple #[x, y] ∧ OwnDk w B x u ∧ y = .bool ok) : XD24 V B DV EV d u ok (l.setIfInBounds 5 true) w s14 s15 v s80 s81 s82 s83 s84 s85 s86 := by
  exact ⟨(fun h' => h.f0 (listed_set h' (by decide))), (fun h' => h.f1 (listed_set h' (by decide))), (fun h' => h.f2 (listed_set h' (by decide))), (fun h' => h.f3 (listed_set h' (by decide))), (fun h' => h.f4 (listed_set h' (by decide))), (fun _ => hv), (fun h' => h.f6 (listed_set h' (by decide))), (fun h' => h.f7 (listed_set h' (by decide))), (fun h' => (let ⟨q, e, hq, hh⟩ := h.f8 (listed_set h' (by decide)); ⟨q, e, hq, fun hn => hh (by rwa [listed_same (by decide)] at hn)⟩)), (fun h' => h.f9 (listed_set h' (by decide))), (fun h' => h.f10 (listed_set h' (by decide))), (fun h' => by rw [listed_same (by decide)] at h' ⊢; exact h.da h'), h.low⟩
theorem XD24.up6 (h : XD24 V B DV EV d u ok l w s14 s15 s79 s80 s81 s82 s83 s84 s85 s86) (hv : OwnDk w B v u) : XD24 V B DV EV d u ok (l.setIfInBounds 6 true) w s14 s15 s79 s80 s81 s82 s83 s84 v s86 := by
  exact ⟨(fun h' => h.f0 (listed_set h' (by decide))), (fun h' => h.f1 (listed_set h' (by decide))), (fun h' => h.f2 (listed_set h' (by decide))), (fun h' => h.f3 (listed_set h' (by decide))), (fun h' => h.f4 (listed_set h' (by decide))), (fun h' => h.f5 (listed_set h' (by decide))), (fun _ => hv), (fun h' => h.f7 (listed_set h' (by decide))), (fun h' => (let ⟨q, e, hq, hh⟩ := h.f8 (listed_set h' (by decide)); ⟨q, e, hq, fun hn => hh (by rwa [listed_same (by decide)] at hn)⟩)), (fun h' => h.f9 (listed_set h' (by decide))), (fun h' => h.f10 (listed_set h' (by decide))), (fun h' => by rw [listed_same (by decide)] at h' ⊢; exact h.da h'), h.low⟩
theorem XD24.up7 (h : XD24 V B DV EV d u ok l w s14 s15 s79 s80 s81 s82 s83 s84 s85 s86) (hv : v = .bool ok) : XD24 V B DV EV d u ok (l.setIfInBounds 7 true) w s14 s15 s79 s80 s81 s82 s83 s84 s85 v := by
  exact ⟨(fun h' => h.f0 (listed_set h' (by decide))), (fun h' => h.f1 (listed_set h' (by decide))), (fun h' => h.f2 (listed_set h' (by decide))), (fun h' => h.f3 (listed_set h' (by decide))), (fun h' => h.f4 (listed_set h' (by decide))), (fun h' => h.f5 (listed_set h' (by decide))), (fun h' => h.f6 (listed_set h' (by decide))), (fun _ => hv), (fun h' => (let ⟨q, e, hq, hh⟩ := h.f8 (listed_set h' (by decide)); ⟨q, e, hq, fun hn => hh (by rwa [listed_same (by decide)] at hn)⟩)), (fun h' => h.f9 (listed_set h' (by decide))), (fun h' => h.f10 (listed_set h' (by decide))), (fun h' => by rw [listed_same (by decide)] at h' ⊢; exact h.da h'), h.low⟩
theorem XD24.up8 (h : XD24 V B DV EV d u ok l w s14 s15 s79 s80 s81 s82 s83 s84 s85 s86) (hsz : l.size = 11) (hun : l.getD 8 false = false) : XD24 V B DV EV d u ok (l.setIfInBounds 8 true) (w.alloc (.cells #[.slice none 0 0, .slice none 0 0, .slice none 0 0, .int .i64 0, .slice none 0 0] 28)) (.pointer (some ⟨w.heap.size, 0, none⟩)) s15 s79 s80 s81 s82 s83 s84 s85 s86 := by
  have hb := (Below.refl w.heap.size w).alloc (Nat.le_refl _) (.cells #[.slice none 0 0, .slice none 0 0, .slice none 0 0, .int .i64 0, .slice none 0 0] 28)
  exact ⟨(fun h' => h.f0 (listed_set h' (by decide))), (fun h' => OwnDk.below (h.f1 (listed_set h' (by decide))) hb (Nat.le_refl _)), (fun h' => h.f2 (listed_set h' (by decide))), (fun h' => h.f3 (listed_set h' (by decide))), (fun h' => (let ⟨x, y, e, hp, hq⟩ := h.f4 (listed_set h' (by decide)); ⟨x, y, e, OwnDk.below (hp) hb (Nat.le_refl _), hq⟩)), (fun h' => (let ⟨x, y, e, hp, hq⟩ := h.f5 (listed_set h' (by decide)); ⟨x, y, e, OwnDk.below (hp) hb (Nat.le_refl _), hq⟩)), (fun h' => OwnDk.below (h.f6 (listed_set h' (by decide))) hb (Nat.le_refl _)), (fun h' => h.f7 (listed_set h' (by decide))), (fun _ => ⟨w.heap.size, rfl, h.low.size, fun _ => Blk.new _ _ _⟩), (fun h' => absurd (h.da (listed_set h' (by decide))) (by rw [hun]; simp)), (fun h' => h.f10 (listed_set h' (by decide))), (fun _ => listed_at (by omega)), h.low.trans (hb.mono h.low.size)⟩
theorem XD24.up9 (h : XD24 V B DV EV d u ok l w s14 s15 s79 s80 s81 s82 s83 s84 s85 s86) (hsz : l.size = 11) {q : Nat} {u0 u1 u2 u3 u4 : Value} (hA : l.getD 8 false = true) (e8 : s14 = .pointer (some ⟨q, 0, none⟩)) (hq : V.heap.size ≤ q) (hz : Blk w q 28 #[.slice none 0 0, .slice none 0 0, .slice none 0 0, .int .i64 0, .slice none 0 0]) (ho : OwnDk w B (.agg #[u0, u1, u2, u3, u4]) u) : XD24 V B DV EV d u ok (l.setIfInBounds 9 true) (((((w.setCell ⟨q, 0, none⟩ u0).setCell ⟨q, 1, none⟩ u1).setCell ⟨q, 2, none⟩ u2).setCell ⟨q, 3, none⟩ u3).setCell ⟨q, 4, none⟩ u4) s14 s15 s79 s80 s81 s82 s83 s84 s85 s86 := by
  exact ⟨(fun h' => h.f0 (listed_set h' (by decide))), (fun h' => OwnDk.set5 (h.f1 (listed_set h' (by decide))) hz), (fun h' => h.f2 (listed_set h' (by decide))), (fun h' => h.f3 (listed_set h' (by decide))), (fun h' => (let ⟨x, y, e, hp, hq⟩ := h.f4 (listed_set h' (by decide)); ⟨x, y, e, OwnDk.set5 (hp) hz, hq⟩)), (fun h' => (let ⟨x, y, e, hp, hq⟩ := h.f5 (listed_set h' (by decide)); ⟨x, y, e, OwnDk.set5 (hp) hz, hq⟩)), (fun h' => OwnDk.set5 (h.f6 (listed_set h' (by decide))) hz), (fun h' => h.f7 (listed_set h' (by decide))), (fun h' => (let ⟨q, e, hq, hh⟩ := h.f8 (listed_set h' (by decide)); ⟨q, e, hq, fun hn => by rw [listed_at (by omega)] at hn; cases hn⟩)), (fun _ => ⟨q, u0, u1, u2, u3, u4, e8, hq, hz.set5 u0 u1 u2 u3 u4, OwnDk.set5 (ho) hz⟩), (fun h' => h.f10 (listed_set h' (by decide))), (fun _ => by rw [listed_same (by decide)]; exact hA), below_dk5 h.low hq⟩
theorem XD24.up10 (h : XD24 V B DV EV d u ok l w s14 s15 s79 s80 s81 s82 s83 s84 s85 s86) (hv : v = .bool ok) : XD24 V B DV EV d u ok (l.setIfInBounds 10 true) w s14 v s79 s80 s81 s82 s83 s84 s85 s86 := by
  exact ⟨(fun h' => h.f0 (listed_set h' (by decide))), (fun h' => h.f1 (listed_set h' (by decide))), (fun h' => h.f2 (listed_set h' (by decide))), (fun h' => h.f3 (listed_set h' (by decide))), (fun h' => h.f4 (listed_set h' (by decide))), (fun h' => h.f5 (listed_set h' (by decide))), (fun h' => h.f6 (listed_set h' (by decide))), (fun h' => h.f7 (listed_set h' (by decide))), (fun h' => (let ⟨q, e, hq, hh⟩ := h.f8 (listed_set h' (by decide)); ⟨q, e, hq, fun hn => hh (by rwa [listed_same (by decide)] at hn)⟩)), (fun h' => h.f9 (listed_set h' (by decide))), (fun _ => hv), (fun h' => by rw [listed_same (by decide)] at h' ⊢; exact h.da h'), h.low⟩
end
set_option maxRecDepth 100000 in
set_option maxHeartbeats 8000000 in
theorem walk (w : World) (v : Value) (d : Dk) (h : DskIn w v d) (va : Value) (a : Dd) (ha : DdIn va a) :
    Calls Try.prog 4 #[v, va] w fun e w' => e = .returned (.bool true) ∧ Below w.heap.size w w' := by
  obtain rfl := ha.e
  obtain ⟨kd, n⟩ := a
  dsimp only
  clear ha
  have HI := h
  obtain ⟨A1, c1, A2, c2, A3, c3, A5, c5, rfl, -⟩ := h.ex
  have hB := ((Below.refl w.heap.size w).alloc (Nat.le_refl _) (.cells #[.slice A1 d.t.us.length c1, .slice A2 d.t.bs.length c2, .slice A3 d.t.ns.length c3, .int .i64 d.now, .slice A5 d.past.length c5] 40)).alloc (by simp) (.cells #[.int .i64 kd, .int .i64 n] 42)
  have kX := (Blk.new w 40 #[.slice A1 d.t.us.length c1, .slice A2 d.t.bs.length c2, .slice A3 d.t.ns.length c3, .int .i64 d.now, .slice A5 d.past.length c5]).alloc (.cells #[.int .i64 kd, .int .i64 n] 42)
  have kE : Blk ((w.alloc (.cells #[.slice A1 d.t.us.length c1, .slice A2 d.t.bs.length c2, .slice A3 d.t.ns.length c3, .int .i64 d.now, .slice A5 d.past.length c5] 40)).alloc (.cells #[.int .i64 kd, .int .i64 n] 42)) (w.heap.size + 1) 42 #[.int .i64 kd, .int .i64 n] := blk_new_at _ (by simp)
  have hS := Lib.hid (szDesk_any _ d _ (HI.below hB (Nat.le_refl _)))
  replace HI := Lib.hid HI
  replace hB := Lib.hid hB
  replace kX := Lib.hid kX
  replace kE := Lib.hid kE
  clear h
  go_enter Try.func4, Try.ntmps4
  go_upto_region 2 with (fail)
  generalize (w.alloc (.cells #[.slice A1 d.t.us.length c1, .slice A2 d.t.bs.length c2, .slice A3 d.t.ns.length c3, .int .i64 d.now, .slice A5 d.past.length c5] 40)).alloc (.cells #[.int .i64 kd, .int .i64 n] 42) = W0 at *
  obtain ⟨⟨x0, x1, x2, x3, x4⟩, -⟩ := blk5 kX.out
  go_wp2_with (fail)
  refine hS.out.mono ?_
  rintro e w1 ⟨r, rfl, hr, b1⟩
  replace hB := Lib.hid (hB.out.trans (b1.mono hB.out.size))
  replace kX := Lib.hid (kX.out.below b1 kX.out.lt)
  replace kE := Lib.hid (kE.out.below b1 kE.out.lt)
  clear b1 hS x0 x1 x2 x3 x4
  rcases hr with rfl | ⟨hr0, hr9, hf⟩
  · clear kX kE
    go_wp2
    go_ret
    exact ⟨rfl, hB.out⟩
  · have hr1 : ¬ r < 0 := by omega
    replace hf := Lib.hid hf
    have hfu := Lib.hid (doFine hf.out ⟨kd, n⟩)
    have HM : ∀ (v' : Value) (w' : World), Dsk w' v' d → Calls Try.prog 15 #[v', .agg #[.int .i64 kd, .int .i64 n]] w' (RetMW w' d.past.length (dkDo d ⟨kd, n⟩).1 (dkDo d ⟨kd, n⟩).2) := fun v' w' h => specDeskDo_any v' d ⟨kd, n⟩ w' h hf.out
    have HU : ∀ (v' : Value) (w' : World), Dsk w' v' d → Calls Try.prog 18 #[v', .agg #[.int .i64 kd, .int .i64 n]] w' (RetDkB w' (dkDo d ⟨kd, n⟩).1 (dkDo d ⟨kd, n⟩).2) := fun v' w' h => implDeskDo_any v' d ⟨kd, n⟩ w' h hf.out
    obtain ⟨u, hu⟩ : ∃ u, (dkDo d ⟨kd, n⟩).1 = u := ⟨_, rfl⟩
    obtain ⟨ok, hok⟩ : ∃ ok, (dkDo d ⟨kd, n⟩).2 = ok := ⟨_, rfl⟩
    simp only [hu, hok] at HM HU hfu
    replace hu := Lib.hid hu
    replace hok := Lib.hid hok
    replace HM := Lib.hid HM
    replace HU := Lib.hid HU
    have hne : (ok != ok) = false := by simp
    have hTin := Lib.hid (HI.out.dsk.below hB.out (Nat.le_refl _))
    have hXt := Lib.hid (fun W (h : Below w1.heap.size w1 W) => toDesk_any _ d W (hTin.out.below h (Nat.le_refl _)) hf.out)
    have hXc := Lib.hid (fun W (h : Below w1.heap.size w1 W) => (blk5 (kX.out.below h kX.out.lt)).1)
    have hEc := Lib.hid (fun W (h : Below w1.heap.size w1 W) => (⟨(kE.out.below h kE.out.lt).cell 0, (kE.out.below h kE.out.lt).cell 1⟩ : W.cell? ⟨w.heap.size + 1, 0, none⟩ = some (.int .i64 kd) ∧ W.cell? ⟨w.heap.size + 1, 1, none⟩ = some (.int .i64 n)))
    have hBo := Lib.hid (fun W (h : Below w1.heap.size w1 W) => hB.out.trans (h.mono hB.out.size))
    clear kX kE hB HI
    go_upto_region 5 with (fail)
    refine wp_region_any (by kernel_rfl) ?_
    refine wpAny_inv (Inv := fun l a w' => ∃ (s6 s7 s21 s22 s23 s24 s25 s26 s27 s28 : Value), a = ⟨#[Value.agg #[Value.slice A1 d.t.us.length c1, Value.slice A2 d.t.bs.length c2, Value.slice A3 d.t.ns.length c3, Value.int IntKind.i64 d.now, Value.slice A5 d.past.length c5], Value.agg #[Value.int IntKind.i64 kd, Value.int IntKind.i64 n], Value.pointer (some { block := w.heap.size, off := 0 }), Value.pointer (some { block := w.heap.size + 1, off := 0 }), Value.bool false, Value.int IntKind.i64 r, s6, s7, undef, undef, undef, undef, undef, undef, undef, undef, Value.agg #[Value.slice A1 d.t.us.length c1, Value.slice A2 d.t.bs.length c2, Value.slice A3 d.t.ns.length c3, Value.int IntKind.i64 d.now, Value.slice A5 d.past.length c5], Value.int IntKind.i64 1048576, Value.int IntKind.i64 r, Value.int IntKind.i64 r, Value.bool (decide (r < 0)), s21, s22, s23, s24, s25, s26, s27, s28, undef, undef, undef, undef, undef, undef, undef, undef, undef, undef, undef, undef, undef, undef, undef, undef, undef, undef, undef, undef, undef, undef, undef, undef, undef, undef, undef, undef, undef, undef, undef, undef, undef, undef, undef, undef, undef, undef, undef, undef, undef, undef, undef, undef, undef, undef, undef, undef, undef, undef, undef, undef, undef, undef, undef, undef, undef, undef, undef, undef, undef, undef, undef, undef, undef, undef, undef, undef, undef, undef, undef, undef, undef, undef, undef], []⟩ ∧ XD5 w1 w1.heap.size (.agg #[.slice A1 d.t.us.length c1, .slice A2 d.t.bs.length c2, .slice A3 d.t.ns.length c3, .int .i64 d.now, .slice A5 d.past.length c5]) (.agg #[.int .i64 kd, .int .i64 n]) d u ok l w' s6 s7 s21 s22 s23 s24 s25 s26 s27 s28) (ord_spec (by kernel_rfl)) ?_ ?_ _ _ _ _ rfl (by decide) ?_
    · rintro l a w' ⟨s6, s7, s21, s22, s23, s24, s25, s26, s27, s28, rfl, hF⟩ hsz hl
      have hl' : ∀ j, j < 11 → l.getD j false = true := hl
      obtain ⟨q6, u0, u1, u2, u3, u4, e8, hq6, hbx, how⟩ := hF.f9 (hl' 9 (by decide))
      subst e8
      have e9 := hF.f10 (hl' 10 (by decide))
      subst e9
      obtain ⟨Y1, yx1, Y2, yx2, Y3, yx3, Y5, yx5, e1, -⟩ := how.dsk.ex
      injection e1 with e1
      have e1 : #[u0, u1, u2, u3, u4] = (_ : Array Value) := e1
      injection e1 with e1
      simp only [List.cons.injEq, and_true] at e1
      obtain ⟨rfl, rfl, rfl, rfl, rfl⟩ := e1
      have D1 := Lib.hid hF.low
      have kY := Lib.hid hbx
      have t3 := Lib.hid how.dsk
      obtain ⟨W3, hW3⟩ : ∃ W3, W3 = w' := ⟨_, rfl⟩
      subst hW3
      clear hF hl hl' hbx how
      have D := Lib.hid (Below.refl W3.heap.size W3)
      have hD1 := Lib.hid (fun W (h : Below W3.heap.size W3 W) => D1.out.trans (h.mono D1.out.size))
      have hYc := Lib.hid (fun W (h : Below W3.heap.size W3 W) => (blk5 (kY.out.below h kY.out.lt)).1)
      have hYt := Lib.hid (fun W (h : Below W3.heap.size W3 W) => t3.out.below h (Nat.le_refl _))
      clear t3 kY
      obtain ⟨x0, x1, x2, x3, x4⟩ := hXc.out _ (hD1.out _ D.out)
      have K3 := Lib.hid (hXt.out _ (hD1.out _ D.out))
      go_wp2_with (fail)
      refine K3.out.mono ?_
      rintro e w4 ⟨v4, rfl, oZw, b4⟩
      have oZ := oZw.own
      obtain ⟨Z1, zx1, Z2, zx2, Z3, zx3, Z5, zx5, rfl⟩ := oZ.shape
      have oZ0 := Lib.hid oZ
      have hA4 := (Below.refl w4.heap.size w4).alloc (Nat.le_refl _) (.cells #[.slice Z1 d.t.us.length zx1, .slice Z2 d.t.bs.length zx2, .slice Z3 d.t.ns.length zx3, .int .i64 d.now, .slice Z5 d.past.length zx5] 28)
      have m34 := Lib.hid b4.size
      have b4' := b4.trans (hA4.mono b4.size)
      have kZ := Lib.hid (Blk.new w4 28 #[.slice Z1 d.t.us.length zx1, .slice Z2 d.t.bs.length zx2, .slice Z3 d.t.ns.length zx3, .int .i64 d.now, .slice Z5 d.past.length zx5])
      replace oZ := Lib.hid (oZ.below hA4 (Nat.le_refl _))
      replace D := Lib.hid (D.out.trans (b4'.mono D.out.size))
      clear b4 b4' hA4 x0 x1 x2 x3 x4 K3 oZw
      go_upto_region 7 with (fail)
      generalize hW5 : w4.alloc (.cells #[.slice Z1 d.t.us.length zx1, .slice Z2 d.t.bs.length zx2, .slice Z3 d.t.ns.length zx3, .int .i64 d.now, .slice Z5 d.past.length zx5] 28) = W5 at *
      have m45 : w4.heap.size < W5.heap.size := by rw [← hW5]; simp
      replace m45 := Lib.hid m45
      clear hW5
      have hZc := Lib.hid (fun W (h : Below W5.heap.size W5 W) => (blk5 (kZ.out.below h kZ.out.lt)).1)
      have hEc5 := Lib.hid (fun W (h : Below W5.heap.size W5 W) => hEc.out _ (hD1.out _ (D.out.trans (h.mono D.out.size))))
      refine wp_region_any (by kernel_rfl) ?_
      refine wpAny_inv (Inv := fun l a w' => ∃ (s9 s10 s31 s32 s33 s34 s35 s36 s37 : Value), a = ⟨#[Value.agg #[Value.slice A1 d.t.us.length c1, Value.slice A2 d.t.bs.length c2, Value.slice A3 d.t.ns.length c3, Value.int IntKind.i64 d.now, Value.slice A5 d.past.length c5], Value.agg #[Value.int IntKind.i64 kd, Value.int IntKind.i64 n], Value.pointer (some { block := w.heap.size, off := 0 }), Value.pointer (some { block := w.heap.size + 1, off := 0 }), Value.bool false, Value.int IntKind.i64 r, Value.pointer (some { block := q6, off := 0 }), Value.bool ok, Value.pointer (some { block := w4.heap.size, off := 0 }), s9, s10, undef, undef, undef, undef, undef, Value.agg #[Value.slice A1 d.t.us.length c1, Value.slice A2 d.t.bs.length c2, Value.slice A3 d.t.ns.length c3, Value.int IntKind.i64 d.now, Value.slice A5 d.past.length c5], Value.int IntKind.i64 1048576, Value.int IntKind.i64 r, Value.int IntKind.i64 r, Value.bool (decide (r < 0)), s21, s22, s23, s24, s25, s26, s27, s28, Value.agg #[Value.slice A1 d.t.us.length c1, Value.slice A2 d.t.bs.length c2, Value.slice A3 d.t.ns.length c3, Value.int IntKind.i64 d.now, Value.slice A5 d.past.length c5], Value.agg #[Value.slice Z1 d.t.us.length zx1, Value.slice Z2 d.t.bs.length zx2, Value.slice Z3 d.t.ns.length zx3, Value.int IntKind.i64 d.now, Value.slice Z5 d.past.length zx5], s31, s32, s33, s34, s35, s36, s37, undef, undef, undef, undef, undef, undef, undef, undef, undef, undef, undef, undef, undef, undef, undef, undef, undef, undef, undef, undef, undef, undef, undef, undef, undef, undef, undef, undef, undef, undef, undef, undef, undef, undef, undef, undef, undef, undef, undef, undef, undef, undef, undef, undef, undef, undef, undef, undef, undef, undef, undef, undef, undef, undef, undef, undef, undef, undef, undef, undef, undef, undef, undef, undef, undef, undef], []⟩ ∧ XD7 W5 W5.heap.size (.agg #[.slice Z1 d.t.us.length zx1, .slice Z2 d.t.bs.length zx2, .slice Z3 d.t.ns.length zx3, .int .i64 d.now, .slice Z5 d.past.length zx5]) (.agg #[.int .i64 kd, .int .i64 n]) u ok l w' s9 s10 s31 s32 s33 s34 s35 s36 s37) (ord_spec (by kernel_rfl)) ?_ ?_ _ _ _ _ rfl (by decide) ?_
      · rintro l a w' ⟨s9, s10, s31, s32, s33, s34, s35, s36, s37, rfl, hF⟩ hsz hl
        have hl' : ∀ j, j < 10 → l.getD j false = true := hl
        obtain ⟨q9, u0, u1, u2, u3, u4, e8, hq9, hbx, how⟩ := hF.f8 (hl' 8 (by decide))
        subst e8
        have e9 := hF.f9 (hl' 9 (by decide))
        subst e9
        obtain ⟨G1, gx1, G2, gx2, G3, gx3, G5, gx5, e1, -⟩ := how.dsk.ex
        injection e1 with e1
        have e1 : #[u0, u1, u2, u3, u4] = (_ : Array Value) := e1
        injection e1 with e1
        simp only [List.cons.injEq, and_true] at e1
        obtain ⟨rfl, rfl, rfl, rfl, rfl⟩ := e1
        have rG := Lib.hid (Row5.of_blk hbx)
        have oG := Lib.hid how
        have D5 := Lib.hid hF.low
        obtain ⟨W7, hW7⟩ : ∃ W7, W7 = w' := ⟨_, rfl⟩
        subst hW7
        have m57 := Lib.hid hF.low.size
        replace oZ := Lib.hid (oZ.out.below hF.low (Nat.le_refl _))
        replace kZ := Lib.hid (kZ.out.below hF.low kZ.out.lt)
        replace D := Lib.hid (D.out.trans (hF.low.mono D.out.size))
        clear hF hl hl' hbx how D5 hEc5 hZc
        obtain ⟨y0, y1, y2, y3, y4⟩ := hYc.out _ D.out
        obtain ⟨g0, g1, g2, g3, g4⟩ := rG.out.cells
        have K5 := Lib.hid (eqDesk_same _ _ u W7 oG.out.dsk (hYt.out _ D.out) hfu.out)
        go_wp2_with (fail)
        refine K5.out.mono ?_
        rintro e w8 ⟨rfl, b8⟩
        replace D := Lib.hid (D.out.trans (b8.mono D.out.size))
        replace kZ := Lib.hid (kZ.out.below b8 kZ.out.lt)
        replace oZ := Lib.hid (oZ.out.below b8 (Nat.le_refl _))
        replace rG := Lib.hid (rG.out.below b8 (Nat.le_refl _))
        replace oG := Lib.hid (oG.out.below b8 (Nat.le_refl _))
        replace m57 := Lib.hid (Nat.le_trans m57.out b8.size)
        clear b8 y0 y1 y2 y3 y4 g0 g1 g2 g3 g4 K5
        have hZc := Lib.hid (fun W (h : Below w8.heap.size w8 W) => (blk5 (kZ.out.below h kZ.out.lt)).1)
        have hZt := Lib.hid (fun W (h : Below w8.heap.size w8 W) => oZ.out.dsk.below h (Nat.le_refl _))
        have hD8 := Lib.hid (fun W (h : Below w8.heap.size w8 W) => hD1.out _ (D.out.trans (h.mono D.out.size)))
        go_upto_region 10 with (fail)
        refine wp_region_any (by kernel_rfl) ?_
        refine wpAny_inv (Inv := fun l a w' => ∃ (s47 s48 s49 s50 s51 : Value), a = ⟨#[Value.agg #[Value.slice A1 d.t.us.length c1, Value.slice A2 d.t.bs.length c2, Value.slice A3 d.t.ns.length c3, Value.int IntKind.i64 d.now, Value.slice A5 d.past.length c5], Value.agg #[Value.int IntKind.i64 kd, Value.int IntKind.i64 n], Value.pointer (some { block := w.heap.size, off := 0 }), Value.pointer (some { block := w.heap.size + 1, off := 0 }), Value.bool false, Value.int IntKind.i64 r, Value.pointer (some { block := q6, off := 0 }), Value.bool ok, Value.pointer (some { block := w4.heap.size, off := 0 }), Value.pointer (some { block := q9, off := 0 }), Value.bool ok, undef, undef, undef, undef, undef, Value.agg #[Value.slice A1 d.t.us.length c1, Value.slice A2 d.t.bs.length c2, Value.slice A3 d.t.ns.length c3, Value.int IntKind.i64 d.now, Value.slice A5 d.past.length c5], Value.int IntKind.i64 1048576, Value.int IntKind.i64 r, Value.int IntKind.i64 r, Value.bool (decide (r < 0)), s21, s22, s23, s24, s25, s26, s27, s28, Value.agg #[Value.slice A1 d.t.us.length c1, Value.slice A2 d.t.bs.length c2, Value.slice A3 d.t.ns.length c3, Value.int IntKind.i64 d.now, Value.slice A5 d.past.length c5], Value.agg #[Value.slice Z1 d.t.us.length zx1, Value.slice Z2 d.t.bs.length zx2, Value.slice Z3 d.t.ns.length zx3, Value.int IntKind.i64 d.now, Value.slice Z5 d.past.length zx5], s31, s32, s33, s34, s35, s36, s37, Value.agg #[Value.slice G1 u.t.us.length gx1, Value.slice G2 u.t.bs.length gx2, Value.slice G3 u.t.ns.length gx3, Value.int IntKind.i64 u.now, Value.slice G5 u.past.length gx5], Value.agg #[Value.slice Y1 u.t.us.length yx1, Value.slice Y2 u.t.bs.length yx2, Value.slice Y3 u.t.ns.length yx3, Value.int IntKind.i64 u.now, Value.slice Y5 u.past.length yx5], Value.bool true, Value.bool false, Value.bool false, Value.bool ok, Value.bool ok, Value.bool false, Value.bool false, s47, s48, s49, s50, s51, undef, undef, undef, undef, undef, undef, undef, undef, undef, undef, undef, undef, undef, undef, undef, undef, undef, undef, undef, undef, undef, undef, undef, undef, undef, undef, undef, undef, undef, undef, undef, undef, undef, undef, undef, undef, undef, undef, undef, undef, undef, undef, undef, undef, undef, undef, undef, undef, undef, undef, undef, undef], []⟩ ∧ XD10 w8 w8.heap.size (.agg #[.slice Z1 d.t.us.length zx1, .slice Z2 d.t.bs.length zx2, .slice Z3 d.t.ns.length zx3, .int .i64 d.now, .slice Z5 d.past.length zx5]) (.agg #[.slice A1 d.t.us.length c1, .slice A2 d.t.bs.length c2, .slice A3 d.t.ns.length c3, .int .i64 d.now, .slice A5 d.past.length c5]) d l w' s47 s48 s49 s50 s51) (ord_spec (by kernel_rfl)) ?_ ?_ _ _ _ _ rfl (by decide) ?_
        · rintro l a w' ⟨s47, s48, s49, s50, s51, rfl, hF⟩ hsz hl
          have hl' : ∀ j, j < 5 → l.getD j false = true := hl
          have e50 := hF.f4 (hl' 4 (by decide))
          subst e50
          have ba := hF.low
          obtain ⟨wa, hwa⟩ : ∃ wa, wa = w' := ⟨_, rfl⟩
          subst hwa
          replace D := Lib.hid (D.out.trans (ba.mono D.out.size))
          replace kZ := Lib.hid (kZ.out.below ba kZ.out.lt)
          replace oZ := Lib.hid (oZ.out.below ba (Nat.le_refl _))
          replace rG := Lib.hid (rG.out.below ba (Nat.le_refl _))
          replace oG := Lib.hid (oG.out.below ba (Nat.le_refl _))
          replace m57 := Lib.hid (Nat.le_trans m57.out ba.size)
          have g50 := hF.f0 (hl' 0 (by decide))
          have g51 := hF.f1 (hl' 1 (by decide))
          have g53 := hF.f3 (hl' 3 (by decide))
          subst g50
          subst g51
          subst g53
          clear ba hF hl hl' hZc hZt hD8
          obtain ⟨z0, z1, z2, z3, z4⟩ := (blk5 kZ.out).1
          have K6 := Lib.hid (markDesk_any _ d W3.heap.size wa oZ.out hf.out D.out.size)
          go_wp2_with (fail)
          refine K6.out.mono ?_
          rintro e wb ⟨rfl, -, cb, qb⟩
          have hpos : ¬ (cntDk d < 0) := by unfold cntDk; omega
          have qb' := keeps_dk oZ0.out qb
          replace oG := Lib.hid (OwnDk.keeps oG.out qb' (by have := m45.out; omega))
          replace rG := Lib.hid (Row5.keeps rG.out qb' (by have := m45.out; omega))
          replace D := Lib.hid (D.out.trans cb)
          have m5b := Lib.hid (Nat.le_trans m57.out cb.size)
          clear cb qb qb' K6 z0 z1 z2 z3 z4 kZ oZ m57
          obtain ⟨y0, y1, y2, y3, y4⟩ := hYc.out _ D.out
          obtain ⟨g0, g1, g2, g3, g4⟩ := rG.out.cells
          have K7 := Lib.hid (eqDesk_same _ _ u wb oG.out.dsk (hYt.out _ D.out) hfu.out)
          go_wp2_with (fail)
          refine K7.out.mono ?_
          rintro e wc ⟨rfl, bc⟩
          replace D := Lib.hid (D.out.trans (bc.mono D.out.size))
          replace rG := Lib.hid (rG.out.below bc (Nat.le_refl _))
          replace oG := Lib.hid (oG.out.below bc (Nat.le_refl _))
          replace m5b := Lib.hid (Nat.le_trans m5b.out bc.size)
          clear bc y0 y1 y2 y3 y4 g0 g1 g2 g3 g4 K7
          obtain ⟨g0, g1, g2, g3, g4⟩ := rG.out.cells
          have K8 := Lib.hid (markDesk_any _ u W5.heap.size wc oG.out hfu.out m5b.out)
          go_wp2_with (fail)
          refine K8.out.mono ?_
          rintro e wd ⟨rfl, om, cd, qd⟩
          replace rG := Lib.hid (Row5.leaves rG.out oG.out qd)
          replace D := Lib.hid (D.out.trans (cd.mono (by have := m45.out; have := m34.out; omega)))
          replace oG := Lib.hid om
          clear cd qd K8 om g0 g1 g2 g3 g4
          obtain ⟨g0, g1, g2, g3, g4⟩ := rG.out.cells
          have K9 := Lib.hid (heldDesk_any _ u wd oG.out.dsk hfu.out)
          have hup : ¬ (cntDk u < 0) := by unfold cntDk; omega
          have hne1 : (cntDk u != cntDk u) = false := by simp
          go_wp2_with (fail)
          refine K9.out.mono ?_
          rintro e we ⟨rfl, be⟩
          replace D := Lib.hid (D.out.trans (be.mono D.out.size))
          replace rG := Lib.hid (rG.out.below be (Nat.le_refl _))
          replace oG := Lib.hid (oG.out.below be (Nat.le_refl _))
          clear be g0 g1 g2 g3 g4 K9
          have hDe := Lib.hid (fun W (h : Below we.heap.size we W) => hD1.out _ (D.out.trans (h.mono D.out.size)))
          go_upto_region 24 with (fail)
          refine wp_region_any (by kernel_rfl) ?_
          refine wpAny_inv (Inv := fun l a w' => ∃ (s14 s15 s79 s80 s81 s82 s83 s84 s85 s86 : Value), a = ⟨#[Value.agg #[Value.slice A1 d.t.us.length c1, Value.slice A2 d.t.bs.length c2, Value.slice A3 d.t.ns.length c3, Value.int IntKind.i64 d.now, Value.slice A5 d.past.length c5], Value.agg #[Value.int IntKind.i64 kd, Value.int IntKind.i64 n], Value.pointer (some { block := w.heap.size, off := 0 }), Value.pointer (some { block := w.heap.size + 1, off := 0 }), Value.bool false, Value.int IntKind.i64 r, Value.pointer (some { block := q6, off := 0 }), Value.bool ok, Value.pointer (some { block := w4.heap.size, off := 0 }), Value.pointer (some { block := q9, off := 0 }), Value.bool ok, Value.int IntKind.i64 (cntDk d), Value.int IntKind.i64 (cntDk u), Value.int IntKind.i64 (cntDk u), s14, s15, Value.agg #[Value.slice A1 d.t.us.length c1, Value.slice A2 d.t.bs.length c2, Value.slice A3 d.t.ns.length c3, Value.int IntKind.i64 d.now, Value.slice A5 d.past.length c5], Value.int IntKind.i64 1048576, Value.int IntKind.i64 r, Value.int IntKind.i64 r, Value.bool (decide (r < 0)), s21, s22, s23, s24, s25, s26, s27, s28, Value.agg #[Value.slice A1 d.t.us.length c1, Value.slice A2 d.t.bs.length c2, Value.slice A3 d.t.ns.length c3, Value.int IntKind.i64 d.now, Value.slice A5 d.past.length c5], Value.agg #[Value.slice Z1 d.t.us.length zx1, Value.slice Z2 d.t.bs.length zx2, Value.slice Z3 d.t.ns.length zx3, Value.int IntKind.i64 d.now, Value.slice Z5 d.past.length zx5], s31, s32, s33, s34, s35, s36, s37, Value.agg #[Value.slice G1 u.t.us.length gx1, Value.slice G2 u.t.bs.length gx2, Value.slice G3 u.t.ns.length gx3, Value.int IntKind.i64 u.now, Value.slice G5 u.past.length gx5], Value.agg #[Value.slice Y1 u.t.us.length yx1, Value.slice Y2 u.t.bs.length yx2, Value.slice Y3 u.t.ns.length yx3, Value.int IntKind.i64 u.now, Value.slice Y5 u.past.length yx5], Value.bool true, Value.bool false, Value.bool false, Value.bool ok, Value.bool ok, Value.bool false, Value.bool false, Value.agg #[Value.slice Z1 d.t.us.length zx1, Value.slice Z2 d.t.bs.length zx2, Value.slice Z3 d.t.ns.length zx3, Value.int IntKind.i64 d.now, Value.slice Z5 d.past.length zx5], Value.agg #[Value.slice A1 d.t.us.length c1, Value.slice A2 d.t.bs.length c2, Value.slice A3 d.t.ns.length c3, Value.int IntKind.i64 d.now, Value.slice A5 d.past.length c5], s49, Value.bool true, Value.bool false, Value.agg #[Value.slice Z1 d.t.us.length zx1, Value.slice Z2 d.t.bs.length zx2, Value.slice Z3 d.t.ns.length zx3, Value.int IntKind.i64 d.now, Value.slice Z5 d.past.length zx5], Value.int IntKind.i64 1, Value.int IntKind.i64 (cntDk d), Value.int IntKind.i64 (cntDk d), Value.bool (decide (cntDk d < 0)), Value.bool (decide (cntDk d < 0)), Value.agg #[Value.slice G1 u.t.us.length gx1, Value.slice G2 u.t.bs.length gx2, Value.slice G3 u.t.ns.length gx3, Value.int IntKind.i64 u.now, Value.slice G5 u.past.length gx5], Value.agg #[Value.slice Y1 u.t.us.length yx1, Value.slice Y2 u.t.bs.length yx2, Value.slice Y3 u.t.ns.length yx3, Value.int IntKind.i64 u.now, Value.slice Y5 u.past.length yx5], Value.bool true, Value.bool false, Value.bool (decide (cntDk d < 0)), Value.bool (decide (cntDk d < 0)), Value.bool ok, Value.bool ok, Value.bool false, Value.bool (decide (cntDk d < 0)), Value.agg #[Value.slice G1 u.t.us.length gx1, Value.slice G2 u.t.bs.length gx2, Value.slice G3 u.t.ns.length gx3, Value.int IntKind.i64 u.now, Value.slice G5 u.past.length gx5], Value.int IntKind.i64 1, Value.int IntKind.i64 (cntDk u), Value.agg #[Value.slice G1 u.t.us.length gx1, Value.slice G2 u.t.bs.length gx2, Value.slice G3 u.t.ns.length gx3, Value.int IntKind.i64 u.now, Value.slice G5 u.past.length gx5], Value.int IntKind.i64 1, Value.int IntKind.i64 (cntDk u), Value.int IntKind.i64 (cntDk u), Value.bool (decide (cntDk u < 0)), Value.int IntKind.i64 (cntDk u), Value.int IntKind.i64 (cntDk u), Value.bool false, s79, s80, s81, s82, s83, s84, s85, s86, undef, undef, undef, undef, undef, undef, undef, undef, undef, undef, undef, undef, undef, undef, undef, undef, undef], []⟩ ∧ XD24 we we.heap.size (.agg #[.slice A1 d.t.us.length c1, .slice A2 d.t.bs.length c2, .slice A3 d.t.ns.length c3, .int .i64 d.now, .slice A5 d.past.length c5]) (.agg #[.int .i64 kd, .int .i64 n]) d u ok l w' s14 s15 s79 s80 s81 s82 s83 s84 s85 s86) (ord_spec (by kernel_rfl)) ?_ ?_ _ _ _ _ rfl (by decide) ?_
          · rintro l a w' ⟨s14, s15, s79, s80, s81, s82, s83, s84, s85, s86, rfl, hF⟩ hsz hl
            have hl' : ∀ j, j < 11 → l.getD j false = true := hl
            obtain ⟨qh, u0, u1, u2, u3, u4, e8, hqh, hbx, how⟩ := hF.f9 (hl' 9 (by decide))
            subst e8
            have e9 := hF.f10 (hl' 10 (by decide))
            subst e9
            obtain ⟨H1, hx1, H2, hx2, H3, hx3, H5, hx5, e1, -⟩ := how.dsk.ex
            injection e1 with e1
            have e1 : #[u0, u1, u2, u3, u4] = (_ : Array Value) := e1
            injection e1 with e1
            simp only [List.cons.injEq, and_true] at e1
            obtain ⟨rfl, rfl, rfl, rfl, rfl⟩ := e1
            have bg := hF.low
            have kH := Lib.hid hbx
            have tH := Lib.hid how.dsk
            obtain ⟨Wh, hWh⟩ : ∃ Wh, Wh = w' := ⟨_, rfl⟩
            subst hWh
            replace D := Lib.hid (D.out.trans (bg.mono D.out.size))
            replace rG := Lib.hid (rG.out.below bg (Nat.le_refl _))
            replace oG := Lib.hid (oG.out.below bg (Nat.le_refl _))
            clear bg hF hl hl' hbx how hDe
            obtain ⟨y0, y1, y2, y3, y4⟩ := hYc.out _ D.out
            obtain ⟨h0, h1, h2, h3, h4⟩ := (blk5 kH.out).1
            have Kc := Lib.hid (eqDesk_same _ _ u Wh tH.out (hYt.out _ D.out) hfu.out)
            go_wp2_with (fail)
            refine Kc.out.mono ?_
            rintro e wi ⟨rfl, bi⟩
            replace D := Lib.hid (D.out.trans (bi.mono D.out.size))
            replace rG := Lib.hid (rG.out.below bi (Nat.le_refl _))
            replace oG := Lib.hid (oG.out.below bi (Nat.le_refl _))
            clear bi y0 y1 y2 y3 y4 h0 h1 h2 h3 h4 kH tH Kc
            obtain ⟨g0, g1, g2, g3, g4⟩ := rG.out.cells
            have Kd := Lib.hid (heldDesk_any _ u wi oG.out.dsk hfu.out)
            go_wp2_with (fail)
            refine Kd.out.mono ?_
            rintro e wj ⟨rfl, bj⟩
            replace D := Lib.hid (D.out.trans (bj.mono D.out.size))
            clear bj g0 g1 g2 g3 g4 Kd
            go_wp2
            go_ret
            exact ⟨rfl, hBo.out _ (hD1.out _ D.out)⟩
            
          · rintro l a w' ⟨s14, s15, s79, s80, s81, s82, s83, s84, s85, s86, rfl, hF⟩ hsz i o hlt ho hun hall
            have hlt' : i < 11 := hlt
            refine wpOp_step ho (fun K' hK => ?_)
            replace hK := Lib.hid hK
            obtain rfl | rfl | rfl | rfl | rfl | rfl | rfl | rfl | rfl | rfl | rfl : i = 0 ∨ i = 1 ∨ i = 2 ∨ i = 3 ∨ i = 4 ∨ i = 5 ∨ i = 6 ∨ i = 7 ∨ i = 8 ∨ i = 9 ∨ i = 10 := by omega
            · simp only [List.getElem?_toArray, List.getElem?_cons_zero, Option.some.injEq] at ho
              subst ho
              obtain ⟨x0, x1, x2, x3, x4⟩ := hXc.out _ (hDe.out _ hF.low)
              replace hF := Lib.hid hF
              clear hall
              go_simp
              refine hK.out _ _ ?_
              exact ⟨_, _, _, _, _, _, _, _, _, _, rfl, hF.out.up0 rfl⟩
            · simp only [List.getElem?_toArray, List.getElem?_cons_succ, List.getElem?_cons_zero, Option.some.injEq] at ho
              subst ho
              have e0 := hF.f0 (hall ⟨0, Ground.data⟩ (by simp) rfl)
              subst e0
              have KK := Lib.hid (hXt.out _ (hDe.out _ hF.low))
              have hls := hF.low.size
              replace hF := Lib.hid hF
              clear hall
              go_simp
              go_at_call 16
              refine KK.out.mono ?_
              rintro e V ⟨v, rfl, om, bm⟩
              go_simp
              refine hK.out _ _ ?_
              exact ⟨_, _, _, _, _, _, _, _, _, _, rfl, hF.out.up1 (om.own.mono (by omega)) bm⟩
            · simp only [List.getElem?_toArray, List.getElem?_cons_succ, List.getElem?_cons_zero, Option.some.injEq] at ho
              subst ho
              obtain ⟨x0, x1⟩ := hEc.out _ (hDe.out _ hF.low)
              replace hF := Lib.hid hF
              clear hall
              go_simp
              refine hK.out _ _ ?_
              exact ⟨_, _, _, _, _, _, _, _, _, _, rfl, hF.out.up2 rfl⟩
            · simp only [List.getElem?_toArray, List.getElem?_cons_succ, List.getElem?_cons_zero, Option.some.injEq] at ho
              subst ho
              have e2 := hF.f2 (hall ⟨2, Ground.data⟩ (by simp) rfl)
              subst e2
              replace hF := Lib.hid hF
              clear hall
              go_simp
              go_at_call 17
              refine (toDeed_any _ _ _).mono ?_
              rintro e V ⟨rfl, bm⟩
              go_simp
              refine hK.out _ _ ?_
              exact ⟨_, _, _, _, _, _, _, _, _, _, rfl, hF.out.up3 rfl bm⟩
            · simp only [List.getElem?_toArray, List.getElem?_cons_succ, List.getElem?_cons_zero, Option.some.injEq] at ho
              subst ho
              have p1 := Lib.hid (hF.f1 (hall ⟨1, Ground.data⟩ (by simp) rfl))
              have e3 := hF.f3 (hall ⟨3, Ground.data⟩ (by simp) rfl)
              subst e3
              have KK := Lib.hid (HU.out _ _ p1.out.dsk)
              have hls := hF.low.size
              replace hF := Lib.hid hF
              clear hall
              go_simp
              go_at_call 18
              refine KK.out.mono ?_
              rintro e V ⟨v, rfl, om, bm⟩
              go_simp
              refine hK.out _ _ ?_
              exact ⟨_, _, _, _, _, _, _, _, _, _, rfl, hF.out.up4 ⟨_, _, rfl, om.mono (by omega), rfl⟩ bm⟩
            · simp only [List.getElem?_toArray, List.getElem?_cons_succ, List.getElem?_cons_zero, Option.some.injEq] at ho
              subst ho
              obtain ⟨xa, ya, ea, pa, qa⟩ := hF.f4 (hall ⟨4, Ground.data⟩ (by simp) rfl)
              subst ea
              replace pa := Lib.hid pa
              subst qa
              replace hF := Lib.hid hF
              clear hall
              go_simp
              refine hK.out _ _ ?_
              exact ⟨_, _, _, _, _, _, _, _, _, _, rfl, hF.out.up5 ⟨_, _, rfl, pa.out, rfl⟩⟩
            · simp only [List.getElem?_toArray, List.getElem?_cons_succ, List.getElem?_cons_zero, Option.some.injEq] at ho
              subst ho
              obtain ⟨xa, ya, ea, pa, qa⟩ := hF.f5 (hall ⟨5, Ground.data⟩ (by simp) rfl)
              subst ea
              replace pa := Lib.hid pa
              subst qa
              replace hF := Lib.hid hF
              clear hall
              go_simp
              refine hK.out _ _ ?_
              exact ⟨_, _, _, _, _, _, _, _, _, _, rfl, hF.out.up6 pa.out⟩
            · simp only [List.getElem?_toArray, List.getElem?_cons_succ, List.getElem?_cons_zero, Option.some.injEq] at ho
              subst ho
              obtain ⟨xa, ya, ea, pa, qa⟩ := hF.f5 (hall ⟨5, Ground.data⟩ (by simp) rfl)
              subst ea
              replace pa := Lib.hid pa
              subst qa
              replace hF := Lib.hid hF
              clear hall
              go_simp
              refine hK.out _ _ ?_
              exact ⟨_, _, _, _, _, _, _, _, _, _, rfl, hF.out.up7 rfl⟩
            · simp only [List.getElem?_toArray, List.getElem?_cons_succ, List.getElem?_cons_zero, Option.some.injEq] at ho
              subst ho
              replace hF := Lib.hid hF
              clear hall
              go_simp
              refine hK.out _ _ ?_
              exact ⟨_, _, _, _, _, _, _, _, _, _, rfl, hF.out.up8 hsz hun⟩
            · simp only [List.getElem?_toArray, List.getElem?_cons_succ, List.getElem?_cons_zero, Option.some.injEq] at ho
              subst ho
              have ho' := hF.f6 (hall ⟨6, Ground.data⟩ (by simp) rfl)
              obtain ⟨Y1, j1, Y2, j2, Y3, j3, Y5, j5, ey, -⟩ := ho'.dsk.ex
              subst ey
              have hA := (hall ⟨8, Ground.data⟩ (by simp) rfl)
              obtain ⟨q8, e3, hq', hh⟩ := hF.f8 hA
              subst e3
              have hz := hh hun
              obtain ⟨⟨r0, r1, r2, r3, r4⟩, ⟨g0, g1, g2, g3, g4⟩⟩ := blk5 hz
              replace hz := Lib.hid hz
              replace ho' := Lib.hid ho'
              replace hF := Lib.hid hF
              clear hall
              go_simp
              refine hK.out _ _ ?_
              exact ⟨_, _, _, _, _, _, _, _, _, _, rfl, hF.out.up9 hsz hA rfl hq' hz.out ho'.out⟩
            · simp only [List.getElem?_toArray, List.getElem?_cons_succ, List.getElem?_cons_zero, Option.some.injEq] at ho
              subst ho
              have ea := hF.f7 (hall ⟨7, Ground.data⟩ (by simp) rfl)
              subst ea
              replace hF := Lib.hid hF
              clear hall
              go_simp
              refine hK.out _ _ ?_
              exact ⟨_, _, _, _, _, _, _, _, _, _, rfl, hF.out.up10 rfl⟩
          · exact ⟨_, _, _, _, _, _, _, _, _, _, rfl, (fun h => by simp at h), (fun h => by simp at h), (fun h => by simp at h), (fun h => by simp at h), (fun h => by simp at h), (fun h => by simp at h), (fun h => by simp at h), (fun h => by simp at h), (fun h => by simp at h), (fun h => by simp at h), (fun h => by simp at h), (fun h => by simp at h), (Below.refl _ _).drew⟩
        · rintro l a w' ⟨s47, s48, s49, s50, s51, rfl, hF⟩ hsz i o hlt ho hun hall
          have hlt' : i < 5 := hlt
          refine wpOp_step ho (fun K' hK => ?_)
          replace hK := Lib.hid hK
          obtain rfl | rfl | rfl | rfl | rfl : i = 0 ∨ i = 1 ∨ i = 2 ∨ i = 3 ∨ i = 4 := by omega
          · simp only [List.getElem?_toArray, List.getElem?_cons_zero, Option.some.injEq] at ho
            subst ho
            obtain ⟨x0, x1, x2, x3, x4⟩ := hZc.out _ hF.low
            replace hF := Lib.hid hF
            clear hall
            go_simp
            refine hK.out _ _ ?_
            exact ⟨_, _, _, _, _, rfl, hF.out.up0 rfl⟩
          · simp only [List.getElem?_toArray, List.getElem?_cons_succ, List.getElem?_cons_zero, Option.some.injEq] at ho
            subst ho
            obtain ⟨x0, x1, x2, x3, x4⟩ := hXc.out _ (hD8.out _ hF.low)
            replace hF := Lib.hid hF
            clear hall
            go_simp
            refine hK.out _ _ ?_
            exact ⟨_, _, _, _, _, rfl, hF.out.up1 rfl⟩
          · simp only [List.getElem?_toArray, List.getElem?_cons_succ, List.getElem?_cons_zero, Option.some.injEq] at ho
            subst ho
            have e1 := hF.f1 (hall ⟨1, Ground.data⟩ (by simp) rfl)
            subst e1
            have KK := Lib.hid (hXt.out _ (hD8.out _ hF.low))
            have hls := hF.low.size
            replace hF := Lib.hid hF
            clear hall
            go_simp
            go_at_call 16
            refine KK.out.mono ?_
            rintro e V ⟨v, rfl, om, bm⟩
            go_simp
            refine hK.out _ _ ?_
            exact ⟨_, _, _, _, _, rfl, hF.out.up2 (om.own.mono (by omega)) bm⟩
          · simp only [List.getElem?_toArray, List.getElem?_cons_succ, List.getElem?_cons_zero, Option.some.injEq] at ho
            subst ho
            have e0 := hF.f0 (hall ⟨0, Ground.data⟩ (by simp) rfl)
            subst e0
            have p2 := Lib.hid (hF.f2 (hall ⟨2, Ground.data⟩ (by simp) rfl))
            have KK := Lib.hid (eqDesk_same _ _ d _ (hZt.out _ hF.low) p2.out.dsk hf.out)
            replace hF := Lib.hid hF
            clear hall
            go_simp
            go_at_call 19
            refine KK.out.mono ?_
            rintro e V ⟨rfl, bm⟩
            go_simp
            refine hK.out _ _ ?_
            exact ⟨_, _, _, _, _, rfl, hF.out.up3 rfl bm⟩
          · simp only [List.getElem?_toArray, List.getElem?_cons_succ, List.getElem?_cons_zero, Option.some.injEq] at ho
            subst ho
            have e3 := hF.f3 (hall ⟨3, Ground.data⟩ (by simp) rfl)
            subst e3
            replace hF := Lib.hid hF
            clear hall
            go_simp
            refine hK.out _ _ ?_
            exact ⟨_, _, _, _, _, rfl, hF.out.up4 rfl⟩
        · exact ⟨_, _, _, _, _, rfl, (fun h => by simp at h), (fun h => by simp at h), (fun h => by simp at h), (fun h => by simp at h), (fun h => by simp at h), (Below.refl _ _).drew⟩
      · rintro l a w' ⟨s9, s10, s31, s32, s33, s34, s35, s36, s37, rfl, hF⟩ hsz i o hlt ho hun hall
        have hlt' : i < 10 := hlt
        refine wpOp_step ho (fun K' hK => ?_)
        replace hK := Lib.hid hK
        obtain rfl | rfl | rfl | rfl | rfl | rfl | rfl | rfl | rfl | rfl : i = 0 ∨ i = 1 ∨ i = 2 ∨ i = 3 ∨ i = 4 ∨ i = 5 ∨ i = 6 ∨ i = 7 ∨ i = 8 ∨ i = 9 := by omega
        · simp only [List.getElem?_toArray, List.getElem?_cons_zero, Option.some.injEq] at ho
          subst ho
          obtain ⟨x0, x1, x2, x3, x4⟩ := hZc.out _ hF.low
          replace hF := Lib.hid hF
          clear hall
          go_simp
          refine hK.out _ _ ?_
          exact ⟨_, _, _, _, _, _, _, _, _, rfl, hF.out.up0 rfl⟩
        · simp only [List.getElem?_toArray, List.getElem?_cons_succ, List.getElem?_cons_zero, Option.some.injEq] at ho
          subst ho
          obtain ⟨x0, x1⟩ := hEc5.out _ hF.low
          replace hF := Lib.hid hF
          clear hall
          go_simp
          refine hK.out _ _ ?_
          exact ⟨_, _, _, _, _, _, _, _, _, rfl, hF.out.up1 rfl⟩
        · simp only [List.getElem?_toArray, List.getElem?_cons_succ, List.getElem?_cons_zero, Option.some.injEq] at ho
          subst ho
          have e1 := hF.f1 (hall ⟨1, Ground.data⟩ (by simp) rfl)
          subst e1
          replace hF := Lib.hid hF
          clear hall
          go_simp
          go_at_call 17
          refine (toDeed_any _ _ _).mono ?_
          rintro e V ⟨rfl, bm⟩
          go_simp
          refine hK.out _ _ ?_
          exact ⟨_, _, _, _, _, _, _, _, _, rfl, hF.out.up2 rfl bm⟩
        · simp only [List.getElem?_toArray, List.getElem?_cons_succ, List.getElem?_cons_zero, Option.some.injEq] at ho
          subst ho
          have e0 := hF.f0 (hall ⟨0, Ground.data⟩ (by simp) rfl)
          subst e0
          have e2 := hF.f2 (hall ⟨2, Ground.data⟩ (by simp) rfl)
          subst e2
          have KK := Lib.hid (HU.out _ _ (oZ.out.dsk.below hF.low (Nat.le_refl _)))
          have hls := hF.low.size
          replace hF := Lib.hid hF
          clear hall
          go_simp
          go_at_call 18
          refine KK.out.mono ?_
          rintro e V ⟨v, rfl, om, bm⟩
          go_simp
          refine hK.out _ _ ?_
          exact ⟨_, _, _, _, _, _, _, _, _, rfl, hF.out.up3 ⟨_, _, rfl, om.mono (by omega), rfl⟩ bm⟩
        · simp only [List.getElem?_toArray, List.getElem?_cons_succ, List.getElem?_cons_zero, Option.some.injEq] at ho
          subst ho
          obtain ⟨xa, ya, ea, pa, qa⟩ := hF.f3 (hall ⟨3, Ground.data⟩ (by simp) rfl)
          subst ea
          replace pa := Lib.hid pa
          subst qa
          replace hF := Lib.hid hF
          clear hall
          go_simp
          refine hK.out _ _ ?_
          exact ⟨_, _, _, _, _, _, _, _, _, rfl, hF.out.up4 ⟨_, _, rfl, pa.out, rfl⟩⟩
        · simp only [List.getElem?_toArray, List.getElem?_cons_succ, List.getElem?_cons_zero, Option.some.injEq] at ho
          subst ho
          obtain ⟨xa, ya, ea, pa, qa⟩ := hF.f4 (hall ⟨4, Ground.data⟩ (by simp) rfl)
          subst ea
          replace pa := Lib.hid pa
          subst qa
          replace hF := Lib.hid hF
          clear hall
          go_simp
          refine hK.out _ _ ?_
          exact ⟨_, _, _, _, _, _, _, _, _, rfl, hF.out.up5 pa.out⟩
        · simp only [List.getElem?_toArray, List.getElem?_cons_succ, List.getElem?_cons_zero, Option.some.injEq] at ho
          subst ho
          obtain ⟨xa, ya, ea, pa, qa⟩ := hF.f4 (hall ⟨4, Ground.data⟩ (by simp) rfl)
          subst ea
          replace pa := Lib.hid pa
          subst qa
          replace hF := Lib.hid hF
          clear hall
          go_simp
          refine hK.out _ _ ?_
          exact ⟨_, _, _, _, _, _, _, _, _, rfl, hF.out.up6 rfl⟩
        · simp only [List.getElem?_toArray, List.getElem?_cons_succ, List.getElem?_cons_zero, Option.some.injEq] at ho
          subst ho
          replace hF := Lib.hid hF
          clear hall
          go_simp
          refine hK.out _ _ ?_
          exact ⟨_, _, _, _, _, _, _, _, _, rfl, hF.out.up7 hsz hun⟩
        · simp only [List.getElem?_toArray, List.getElem?_cons_succ, List.getElem?_cons_zero, Option.some.injEq] at ho
          subst ho
          have ho' := hF.f5 (hall ⟨5, Ground.data⟩ (by simp) rfl)
          obtain ⟨Y1, j1, Y2, j2, Y3, j3, Y5, j5, ey, -⟩ := ho'.dsk.ex
          subst ey
          have hA := (hall ⟨7, Ground.data⟩ (by simp) rfl)
          obtain ⟨q8, e3, hq', hh⟩ := hF.f7 hA
          subst e3
          have hz := hh hun
          obtain ⟨⟨r0, r1, r2, r3, r4⟩, ⟨g0, g1, g2, g3, g4⟩⟩ := blk5 hz
          replace hz := Lib.hid hz
          replace ho' := Lib.hid ho'
          replace hF := Lib.hid hF
          clear hall
          go_simp
          refine hK.out _ _ ?_
          exact ⟨_, _, _, _, _, _, _, _, _, rfl, hF.out.up8 hsz hA rfl hq' hz.out ho'.out⟩
        · simp only [List.getElem?_toArray, List.getElem?_cons_succ, List.getElem?_cons_zero, Option.some.injEq] at ho
          subst ho
          have ea := hF.f6 (hall ⟨6, Ground.data⟩ (by simp) rfl)
          subst ea
          replace hF := Lib.hid hF
          clear hall
          go_simp
          refine hK.out _ _ ?_
          exact ⟨_, _, _, _, _, _, _, _, _, rfl, hF.out.up9 rfl⟩
      · exact ⟨_, _, _, _, _, _, _, _, _, rfl, (fun h => by simp at h), (fun h => by simp at h), (fun h => by simp at h), (fun h => by simp at h), (fun h => by simp at h), (fun h => by simp at h), (fun h => by simp at h), (fun h => by simp at h), (fun h => by simp at h), (fun h => by simp at h), (fun h => by simp at h), (Below.refl _ _).drew⟩
    · rintro l a w' ⟨s6, s7, s21, s22, s23, s24, s25, s26, s27, s28, rfl, hF⟩ hsz i o hlt ho hun hall
      have hlt' : i < 11 := hlt
      refine wpOp_step ho (fun K' hK => ?_)
      replace hK := Lib.hid hK
      obtain rfl | rfl | rfl | rfl | rfl | rfl | rfl | rfl | rfl | rfl | rfl : i = 0 ∨ i = 1 ∨ i = 2 ∨ i = 3 ∨ i = 4 ∨ i = 5 ∨ i = 6 ∨ i = 7 ∨ i = 8 ∨ i = 9 ∨ i = 10 := by omega
      · simp only [List.getElem?_toArray, List.getElem?_cons_zero, Option.some.injEq] at ho
        subst ho
        obtain ⟨x0, x1, x2, x3, x4⟩ := hXc.out _ (hF.low)
        replace hF := Lib.hid hF
        clear hall
        go_simp
        refine hK.out _ _ ?_
        exact ⟨_, _, _, _, _, _, _, _, _, _, rfl, hF.out.up0 rfl⟩
      · simp only [List.getElem?_toArray, List.getElem?_cons_succ, List.getElem?_cons_zero, Option.some.injEq] at ho
        subst ho
        have e0 := hF.f0 (hall ⟨0, Ground.data⟩ (by simp) rfl)
        subst e0
        have KK := Lib.hid (hXt.out _ (hF.low))
        have hls := hF.low.size
        replace hF := Lib.hid hF
        clear hall
        go_simp
        go_at_call 16
        refine KK.out.mono ?_
        rintro e V ⟨v, rfl, om, bm⟩
        go_simp
        refine hK.out _ _ ?_
        exact ⟨_, _, _, _, _, _, _, _, _, _, rfl, hF.out.up1 (om.own.mono (by omega)) bm⟩
      · simp only [List.getElem?_toArray, List.getElem?_cons_succ, List.getElem?_cons_zero, Option.some.injEq] at ho
        subst ho
        obtain ⟨x0, x1⟩ := hEc.out _ (hF.low)
        replace hF := Lib.hid hF
        clear hall
        go_simp
        refine hK.out _ _ ?_
        exact ⟨_, _, _, _, _, _, _, _, _, _, rfl, hF.out.up2 rfl⟩
      · simp only [List.getElem?_toArray, List.getElem?_cons_succ, List.getElem?_cons_zero, Option.some.injEq] at ho
        subst ho
        have e2 := hF.f2 (hall ⟨2, Ground.data⟩ (by simp) rfl)
        subst e2
        replace hF := Lib.hid hF
        clear hall
        go_simp
        go_at_call 17
        refine (toDeed_any _ _ _).mono ?_
        rintro e V ⟨rfl, bm⟩
        go_simp
        refine hK.out _ _ ?_
        exact ⟨_, _, _, _, _, _, _, _, _, _, rfl, hF.out.up3 rfl bm⟩
      · simp only [List.getElem?_toArray, List.getElem?_cons_succ, List.getElem?_cons_zero, Option.some.injEq] at ho
        subst ho
        have p1 := Lib.hid (hF.f1 (hall ⟨1, Ground.data⟩ (by simp) rfl))
        have e3 := hF.f3 (hall ⟨3, Ground.data⟩ (by simp) rfl)
        subst e3
        have KK := Lib.hid (HM.out _ _ p1.out.dsk)
        have hls := hF.low.size
        replace hF := Lib.hid hF
        clear hall
        go_simp
        go_at_call 15
        refine KK.out.mono ?_
        rintro e V ⟨v, rfl, om, -, bm⟩
        go_simp
        refine hK.out _ _ ?_
        exact ⟨_, _, _, _, _, _, _, _, _, _, rfl, hF.out.up4 ⟨_, _, rfl, om.mono (by omega), rfl⟩ bm⟩
      · simp only [List.getElem?_toArray, List.getElem?_cons_succ, List.getElem?_cons_zero, Option.some.injEq] at ho
        subst ho
        obtain ⟨xa, ya, ea, pa, qa⟩ := hF.f4 (hall ⟨4, Ground.data⟩ (by simp) rfl)
        subst ea
        replace pa := Lib.hid pa
        subst qa
        replace hF := Lib.hid hF
        clear hall
        go_simp
        refine hK.out _ _ ?_
        exact ⟨_, _, _, _, _, _, _, _, _, _, rfl, hF.out.up5 ⟨_, _, rfl, pa.out, rfl⟩⟩
      · simp only [List.getElem?_toArray, List.getElem?_cons_succ, List.getElem?_cons_zero, Option.some.injEq] at ho
        subst ho
        obtain ⟨xa, ya, ea, pa, qa⟩ := hF.f5 (hall ⟨5, Ground.data⟩ (by simp) rfl)
        subst ea
        replace pa := Lib.hid pa
        subst qa
        replace hF := Lib.hid hF
        clear hall
        go_simp
        refine hK.out _ _ ?_
        exact ⟨_, _, _, _, _, _, _, _, _, _, rfl, hF.out.up6 pa.out⟩
      · simp only [List.getElem?_toArray, List.getElem?_cons_succ, List.getElem?_cons_zero, Option.some.injEq] at ho
        subst ho
        obtain ⟨xa, ya, ea, pa, qa⟩ := hF.f5 (hall ⟨5, Ground.data⟩ (by simp) rfl)
        subst ea
        replace pa := Lib.hid pa
        subst qa
        replace hF := Lib.hid hF
        clear hall
        go_simp
        refine hK.out _ _ ?_
        exact ⟨_, _, _, _, _, _, _, _, _, _, rfl, hF.out.up7 rfl⟩
      · simp only [List.getElem?_toArray, List.getElem?_cons_succ, List.getElem?_cons_zero, Option.some.injEq] at ho
        subst ho
        replace hF := Lib.hid hF
        clear hall
        go_simp
        refine hK.out _ _ ?_
        exact ⟨_, _, _, _, _, _, _, _, _, _, rfl, hF.out.up8 hsz hun⟩
      · simp only [List.getElem?_toArray, List.getElem?_cons_succ, List.getElem?_cons_zero, Option.some.injEq] at ho
        subst ho
        have ho' := hF.f6 (hall ⟨6, Ground.data⟩ (by simp) rfl)
        obtain ⟨Y1, j1, Y2, j2, Y3, j3, Y5, j5, ey, -⟩ := ho'.dsk.ex
        subst ey
        have hA := (hall ⟨8, Ground.data⟩ (by simp) rfl)
        obtain ⟨q8, e3, hq', hh⟩ := hF.f8 hA
        subst e3
        have hz := hh hun
        obtain ⟨⟨r0, r1, r2, r3, r4⟩, ⟨g0, g1, g2, g3, g4⟩⟩ := blk5 hz
        replace hz := Lib.hid hz
        replace ho' := Lib.hid ho'
        replace hF := Lib.hid hF
        clear hall
        go_simp
        refine hK.out _ _ ?_
        exact ⟨_, _, _, _, _, _, _, _, _, _, rfl, hF.out.up9 hsz hA rfl hq' hz.out ho'.out⟩
      · simp only [List.getElem?_toArray, List.getElem?_cons_succ, List.getElem?_cons_zero, Option.some.injEq] at ho
        subst ho
        have ea := hF.f7 (hall ⟨7, Ground.data⟩ (by simp) rfl)
        subst ea
        replace hF := Lib.hid hF
        clear hall
        go_simp
        refine hK.out _ _ ?_
        exact ⟨_, _, _, _, _, _, _, _, _, _, rfl, hF.out.up10 rfl⟩
    · exact ⟨_, _, _, _, _, _, _, _, _, _, rfl, (fun h => by simp at h), (fun h => by simp at h), (fun h => by simp at h), (fun h => by simp at h), (fun h => by simp at h), (fun h => by simp at h), (fun h => by simp at h), (fun h => by simp at h), (fun h => by simp at h), (fun h => by simp at h), (fun h => by simp at h), (fun h => by simp at h), (Below.refl _ _).drew⟩
set_option maxRecDepth 100000 in
theorem lifted (os : Os) (started : os.Started) (H : Type) (enc : TypeId × Value → H) :
    ReturnsInHanded {} Try.checked os 4 .any (Rows.fnExactDeskDoSpec.pre6 enc Try.prog Try.f4 Rows.fnExactDeskDoRow.domain false) (Rows.fnExactDeskDoSpec.post enc Try.prog Try.f4 false true false false) := by
  refine returnsInHanded_of_change (C := Try.checked) own started (by kernel_rfl) Try.func4
    (ChangeSpec.witness6 (enc := enc) (C := Try.checked) false ⟨#[], #[.agg #[.slice none 0 0, .slice none 0 0, .slice none 0 0, .int .i64 0, .slice none 0 0], .agg #[.int .i64 0, .int .i64 0]], []⟩ 8 (by kernel_rfl) (by kernel_rfl) (by kernel_rfl) (by kernel_rfl)) ?_
  intro W base args ds gs before hval0 hW hcnd _
  have hval : ∀ (j : Nat) t v, Try.f4.params[j]? = some t → args[j]? = some v → Value.okWide Try.prog W .any base t v := hval0
  have hW' := hW
  obtain ⟨p, q, hA0, hV, rfl, hfz, hnd⟩ := hW
  have hA : DataW.TrodAll enc Try.prog W 0 (fun _ => true) true Try.f4.params.toList args.toList ds p := hA0
  rw [Try.params4] at hA hval
  obtain ⟨v0, vs0, d0, ds0, p0, q0, hargs, rfl, rfl, h0, r0⟩ := trodAll_cons hA
  obtain ⟨v1, vs1, d1, ds1, p1, q1, rfl, rfl, rfl, h1, r1⟩ := trodAll_cons r0
  obtain ⟨rfl, rfl, rfl⟩ := trodAll_nil r1
  obtain rfl : args = #[v0, v1] := by cases args; simp_all
  obtain ⟨rfl, rfl⟩ := trodVars_none hV
  have k0 := h0
  have lt0 : ∀ x ∈ p0, x.block < W.heap.size := by obtain ⟨m, hm⟩ := k0; exact DataW.trod_lt m _ _ _ hm
  obtain ⟨t0, n0⟩ := open_desk (hval 0 40 v0 rfl rfl) h0
  have k1 := h1
  have lt1 : ∀ x ∈ p1, x.block < W.heap.size := by obtain ⟨m, hm⟩ := k1; exact DataW.trod_lt m _ _ _ hm
  obtain ⟨t1, n1⟩ := open_deed (hval 1 42 v1 rfl rfl) h1
  clear hA0 hval0
  refine (walk W v0 t0 n0 v1 t1 n1).mono fun e W' ⟨he, bel⟩ => ?_
  subst he
  exact ⟨_, rfl, _, _, _, [], _, [], hW', trodAll_mk1 (shut_bool Try.underlying4 _), (trodAll_cons_mk (Below.trod laidOut (by kernel_rfl) (of_decide_eq_true (by kernel_rfl)) k0 bel lt0) (trodAll_cons_mk (Below.trod laidOut (by kernel_rfl) (of_decide_eq_true (by kernel_rfl)) k1 bel lt1) trodAll_mk0)), rfl, bel.frame _, fun h => by cases h⟩

theorem over : Rows.fnExactDeskDoRow.holds Try.pinned (OpenSpec.ofChange Rows.fnExactDeskDoSpec) :=
  OpenClaim.holds_of_wide 4 Try.f4 rfl rfl rfl rfl rfl rfl rfl ⟨rfl, rfl, rfl, rfl, rfl⟩ rfl rfl rfl rfl rfl (by kernel_rfl) Try.func4 (by kernel_rfl)
    (of_decide_eq_true (by kernel_rfl)) (by unfold Func.isWrapper; first | (rw [if_pos (by decide +kernel)]; kernel_rfl) | (rw [if_neg (by decide +kernel)]; exact ⟨rfl, rfl⟩))
    (fun os started H enc _ => lifted os started H enc)
theorem proved : Rows.FnExactDeskDoSaid := over
end Go.Proofs.Ytjnlpknjdclalaa.fnExactDeskDo
