/-
  FnDeskRun holds for every input: drawn deeds are done to the drawn desk as the model does them, and in two parts it is the same. No condition.
-/
import Derived.Test.YtjnlpknjdclalaaRows
import Derived.Test.YtjnlpknjdclalaaDrawKr
import Derived.Test.YtjnlpknjdclalaaDTell
import Derived.Test.YtjnlpknjdclalaaSlD
import Derived.Test.YtjnlpknjdclalaaIr
import Derived.Test.YtjnlpknjdclalaaJr
import Derived.Lib.QuietBelow
namespace Go.Proofs.Ytjnlpknjdclalaa.fnDeskRun
open Go.ChangeShapes Go.WideShapes Go.ChangeAt Go.RowKit Go.Sort
open Go.ChangeMaps (open_string shut_string)

theorem own : ownKnob Try.prog.godebug = none := by kernel_rfl
theorem laidOut : laidOutB Try.prog = true := by kernel_rfl
theorem runFine {d : Dk} (h : d.Fine) (l : List Dd) : (dkRun d l).1.Fine := by
  by_cases hk : dkOk d = true ∧ l.length ≤ 40
  · rw [run_yes hk]
    obtain ⟨h1, h2, -⟩ := run_ok hk.1 l
    exact fine_of_ok h1 (by rw [h2]; exact h.t)
  · rw [run_no hk]; exact noDk_fine
theorem runLen (d : Dk) (l : List Dd) : (dkRun d l).2 ≤ 40 := by
  by_cases hk : dkOk d = true ∧ l.length ≤ 40
  · rw [run_yes hk]
    obtain ⟨-, -, h3⟩ := run_ok hk.1 l
    omega
  · rw [run_no hk]; exact Nat.zero_le _
/-- What is known of the operations that have come up. -/
structure LR1 (V : World) (B : Nat) (DV SV HV TV : Value) (ua : Dk) (pz : Int) (l : Array Bool) (w : World) (s10 s11 s63 s64 s65 s66 s67 s68 s69 s70 : Value) : Prop where
  f0 : l.getD 0 false = true → s64 = DV
  f1 : l.getD 1 false = true → s65 = SV
  f2 : l.getD 2 false = true → s66 = HV
  f3 : l.getD 3 false = true → s67 = TV
  f4 : l.getD 4 false = true → ∃ x y, s68 = .tuple #[x, y] ∧ MDk w B x ua ∧ y = .int .i64 pz
  f5 : l.getD 5 false = true → ∃ x y, s63 = .tuple #[x, y] ∧ MDk w B x ua ∧ y = .int .i64 pz
  f6 : l.getD 6 false = true → MDk w B s69 ua
  f7 : l.getD 7 false = true → s70 = .int .i64 pz
  f8 : l.getD 8 false = true → ∃ q, s10 = .pointer (some ⟨q, 0, none⟩) ∧ V.heap.size ≤ q ∧ (l.getD 9 false = false → Blk w q 28 #[.slice none 0 0, .slice none 0 0, .slice none 0 0, .int .i64 0, .slice none 0 0])
  f9 : l.getD 9 false = true → ∃ (q : Nat) (u0 u1 u2 u3 u4 : Value), s10 = .pointer (some ⟨q, 0, none⟩) ∧ V.heap.size ≤ q ∧ Blk w q 28 #[u0, u1, u2, u3, u4] ∧ MDk w B (.agg #[u0, u1, u2, u3, u4]) ua
  f10 : l.getD 10 false = true → s11 = .int .i64 pz
  da : l.getD 9 false = true → l.getD 8 false = true
  low : Below V.heap.size V w
section
variable {V : World} {B : Nat} {DV SV HV TV : Value} {ua : Dk} {pz : Int} {l : Array Bool} {w w' : World} {s10 s11 s63 s64 s65 s66 s67 s68 s69 s70 v : Value}
theorem LR1.up0 (h : LR1 V B DV SV HV TV ua pz l w s10 s11 s63 s64 s65 s66 s67 s68 s69 s70) (hv : v = DV) : LR1 V B DV SV HV TV ua pz (l.setIfInBounds 0 true) w s10 s11 s63 v s65 s66 s67 s68 s69 s70 := by
  exact ⟨(fun _ => hv), (fun h' => h.f1 (listed_set h' (by decide))), (fun h' => h.f2 (listed_set h' (by decide))), (fun h' => h.f3 (listed_set h' (by decide))), (fun h' => h.f4 (listed_set h' (by decide))), (fun h' => h.f5 (listed_set h' (by decide))), (fun h' => h.f6 (listed_set h' (by decide))), (fun h' => h.f7 (listed_set h' (by decide))), (fun h' => (let ⟨q, e, hq, hh⟩ := h.f8 (listed_set h' (by decide)); ⟨q, e, hq, fun hn => hh (by rwa [listed_same (by decide)] at hn)⟩)), (fun h' => h.f9 (listed_set h' (by decide))), (fun h' => h.f10 (listed_set h' (by decide))), (fun h' => by rw [listed_same (by decide)] at h' ⊢; exact h.da h'), h.low⟩
theorem LR1.up1 (h : LR1 V B DV SV HV TV ua pz l w s10 s11 s63 s64 s65 s66 s67 s68 s69 s70) (hv : v = SV) : LR1 V B DV SV HV TV ua pz (l.setIfInBounds 1 true) w s10 s11 s63 s64 v s66 s67 s68 s69 s70 := by
  exact ⟨(fun h' => h.f0 (listed_set h' (by decide))), (fun _ => hv), (fun h' => h.f2 (listed_set h' (by decide))), (fun h' => h.f3 (listed_set h' (by decide))), (fun h' => h.f4 (listed_set h' (by decide))), (fun h' => h.f5 (listed_set h' (by decide))), (fun h' => h.f6 (listed_set h' (by decide))), (fun h' => h.f7 (listed_set h' (by decide))), (fun h' => (let ⟨q, e, hq, hh⟩ := h.f8 (listed_set h' (by decide)); ⟨q, e, hq, fun hn => hh (by rwa [listed_same (by decide)] at hn)⟩)), (fun h' => h.f9 (listed_set h' (by decide))), (fun h' => h.f10 (listed_set h' (by decide))), (fun h' => by rw [listed_same (by decide)] at h' ⊢; exact h.da h'), h.low⟩
theorem LR1.up2 (h : LR1 V B DV SV HV TV ua pz l w s10 s11 s63 s64 s65 s66 s67 s68 s69 s70) (hv : v = HV) : LR1 V B DV SV HV TV ua pz (l.setIfInBounds 2 true) w s10 s11 s63 s64 s65 v s67 s68 s69 s70 := by
  exact ⟨(fun h' => h.f0 (listed_set h' (by decide))), (fun h' => h.f1 (listed_set h' (by decide))), (fun _ => hv), (fun h' => h.f3 (listed_set h' (by decide))), (fun h' => h.f4 (listed_set h' (by decide))), (fun h' => h.f5 (listed_set h' (by decide))), (fun h' => h.f6 (listed_set h' (by decide))), (fun h' => h.f7 (listed_set h' (by decide))), (fun h' => (let ⟨q, e, hq, hh⟩ := h.f8 (listed_set h' (by decide)); ⟨q, e, hq, fun hn => hh (by rwa [listed_same (by decide)] at hn)⟩)), (fun h' => h.f9 (listed_set h' (by decide))), (fun h' => h.f10 (listed_set h' (by decide))), (fun h' => by rw [listed_same (by decide)] at h' ⊢; exact h.da h'), h.low⟩
theorem LR1.up3 (h : LR1 V B DV SV HV TV ua pz l w s10 s11 s63 s64 s65 s66 s67 s68 s69 s70) (hv : v = TV) : LR1 V B DV SV HV TV ua pz (l.setIfInBounds 3 true) w s10 s11 s63 s64 s65 s66 v s68 s69 s70 := by
  exact ⟨(fun h' => h.f0 (listed_set h' (by decide))), (fun h' => h.f1 (listed_set h' (by decide))), (fun h' => h.f2 (listed_set h' (by decide))), (fun _ => hv), (fun h' => h.f4 (listed_set h' (by decide))), (fun h' => h.f5 (listed_set h' (by decide))), (fun h' => h.f6 (listed_set h' (by decide))), (fun h' => h.f7 (listed_set h' (by decide))), (fun h' => (let ⟨q, e, hq, hh⟩ := h.f8 (listed_set h' (by decide)); ⟨q, e, hq, fun hn => hh (by rwa [listed_same (by decide)] at hn)⟩)), (fun h' => h.f9 (listed_set h' (by decide))), (fun h' => h.f10 (listed_set h' (by decide))), (fun h' => by rw [listed_same (by decide)] at h' ⊢; exact h.da h'), h.low⟩
theorem LR1.up4 (h : LR1 V B DV SV HV TV ua pz l w s10 s11 s63 s64 s65 s66 s67 s68 s69 s70) (hv : ∃ x y, v = .tuple #[x, y] ∧ MDk w' B x ua ∧ y = .int .i64 pz) (hb : Below w.heap.size w w') : LR1 V B DV SV HV TV ua pz (l.setIfInBounds 4 true) w' s10 s11 s63 s64 s65 s66 s67 v s69 s70 := by
  exact ⟨(fun h' => h.f0 (listed_set h' (by decide))), (fun h' => h.f1 (listed_set h' (by decide))), (fun h' => h.f2 (listed_set h' (by decide))), (fun h' => h.f3 (listed_set h' (by decide))), (fun _ => hv), (fun h' => (let ⟨x, y, e, hp, hq⟩ := h.f5 (listed_set h' (by decide)); ⟨x, y, e, MDk.below (hp) hb (Nat.le_refl _), hq⟩)), (fun h' => MDk.below (h.f6 (listed_set h' (by decide))) hb (Nat.le_refl _)), (fun h' => h.f7 (listed_set h' (by decide))), (fun h' => (let ⟨q, e, hq, hh⟩ := h.f8 (listed_set h' (by decide)); ⟨q, e, hq, fun hn => let b := hh (by rwa [listed_same (by decide)] at hn); b.below hb b.lt⟩)), (fun h' => (let ⟨q, u0, u1, u2, u3, u4, e, hq, b, ho⟩ := h.f9 (listed_set h' (by decide)); ⟨q, u0, u1, u2, u3, u4, e, hq, b.below hb b.lt, MDk.below (ho) hb (Nat.le_refl _)⟩)), (fun h' => h.f10 (listed_set h' (by decide))), (fun h' => by rw [listed_same (by decide)] at h' ⊢; exact h.da h'), h.low.trans (hb.mono h.low.size)⟩
theorem LR1.up5 (h : LR1 V B DV SV HV TV ua pz l w s10 s11 s63 s64 s65 s66 s67 s68 s69 s70) (hv : ∃ x y, v = .tuple #[x, y] ∧ MDk w B x ua ∧ y = .int .i64 pz) : LR1 V B DV SV HV TV ua pz (l.setIfInBounds 5 true) w s10 s11 v s64 s65 s66 s67 s68 s69 s70 := by
  exact ⟨(fun h' => h.f0 (listed_set h' (by decide))), (fun h' => h.f1 (listed_set h' (by decide))), (fun h' => h.f2 (listed_set h' (by decide))), (fun h' => h.f3 (listed_set h' (by decide))), (fun h' => h.f4 (listed_set h' (by decide))), (fun _ => hv), (fun h' => h.f6 (listed_set h' (by decide))), (fun h' => h.f7 (listed_set h' (by decide))), (fun h' => (let ⟨q, e, hq, hh⟩ := h.f8 (listed_set h' (by decide)); ⟨q, e, hq, fun hn => hh (by rwa [listed_same (by decide)] at hn)⟩)), (fun h' => h.f9 (listed_set h' (by decide))), (fun h' => h.f10 (listed_set h' (by decide))), (fun h' => by rw [listed_same (by decide)] at h' ⊢; exact h.da h'), h.low⟩
theorem LR1.up6 (h : LR1 V B DV SV HV TV ua pz l w s10 s11 s63 s64 s65 s66 s67 s68 s69 s70) (hv : MDk w B v ua) : LR1 V B DV SV HV TV ua pz (l.setIfInBounds 6 true) w s10 s11 s63 s64 s65 s66 s67 s68 v s70 := by
  exact ⟨(fun h' => h.f0 (listed_set h' (by decide))), (fun h' => h.f1 (listed_set h' (by decide))), (fun h' => h.f2 (listed_set h' (by decide))), (fun h' => h.f3 (listed_set h' (by decide))), (fun h' => h.f4 (listed_set h' (by decide))), (fun h' => h.f5 (listed_set h' (by decide))), (fun _ => hv), (fun h' => h.f7 (listed_set h' (by decide))), (fun h' => (let ⟨q, e, hq, hh⟩ := h.f8 (listed_set h' (by decide)); ⟨q, e, hq, fun hn => hh (by rwa [listed_same (by decide)] at hn)⟩)), (fun h' => h.f9 (listed_set h' (by decide))), (fun h' => h.f10 (listed_set h' (by decide))), (fun h' => by rw [listed_same (by decide)] at h' ⊢; exact h.da h'), h.low⟩
theorem LR1.up7 (h : LR1 V B DV SV HV TV ua pz l w s10 s11 s63 s64 s65 s66 s67 s68 s69 s70) (hv : v = .int .i64 pz) : LR1 V B DV SV HV TV ua pz (l.setIfInBounds 7 true) w s10 s11 s63 s64 s65 s66 s67 s68 s69 v := by
  exact ⟨(fun h' => h.f0 (listed_set h' (by decide))), (fun h' => h.f1 (listed_set h' (by decide))), (fun h' => h.f2 (listed_set h' (by decide))), (fun h' => h.f3 (listed_set h' (by decide))), (fun h' => h.f4 (listed_set h' (by decide))), (fun h' => h.f5 (listed_set h' (by decide))), (fun h' => h.f6 (listed_set h' (by decide))), (fun _ => hv), (fun h' => (let ⟨q, e, hq, hh⟩ := h.f8 (listed_set h' (by decide)); ⟨q, e, hq, fun hn => hh (by rwa [listed_same (by decide)] at hn)⟩)), (fun h' => h.f9 (listed_set h' (by decide))), (fun h' => h.f10 (listed_set h' (by decide))), (fun h' => by rw [listed_same (by decide)] at h' ⊢; exact h.da h'), h.low⟩
theorem LR1.up8 (h : LR1 V B DV SV HV TV ua pz l w s10 s11 s63 s64 s65 s66 s67 s68 s69 s70) (hsz : l.size = 11) (hun : l.getD 8 false = false) : LR1 V B DV SV HV TV ua pz (l.setIfInBounds 8 true) (w.alloc (.cells #[.slice none 0 0, .slice none 0 0, .slice none 0 0, .int .i64 0, .slice none 0 0] 28)) (.pointer (some ⟨w.heap.size, 0, none⟩)) s11 s63 s64 s65 s66 s67 s68 s69 s70 := by
  have hb := (Below.refl w.heap.size w).alloc (Nat.le_refl _) (.cells #[.slice none 0 0, .slice none 0 0, .slice none 0 0, .int .i64 0, .slice none 0 0] 28)
  exact ⟨(fun h' => h.f0 (listed_set h' (by decide))), (fun h' => h.f1 (listed_set h' (by decide))), (fun h' => h.f2 (listed_set h' (by decide))), (fun h' => h.f3 (listed_set h' (by decide))), (fun h' => (let ⟨x, y, e, hp, hq⟩ := h.f4 (listed_set h' (by decide)); ⟨x, y, e, MDk.below (hp) hb (Nat.le_refl _), hq⟩)), (fun h' => (let ⟨x, y, e, hp, hq⟩ := h.f5 (listed_set h' (by decide)); ⟨x, y, e, MDk.below (hp) hb (Nat.le_refl _), hq⟩)), (fun h' => MDk.below (h.f6 (listed_set h' (by decide))) hb (Nat.le_refl _)), (fun h' => h.f7 (listed_set h' (by decide))), (fun _ => ⟨w.heap.size, rfl, h.low.size, fun _ => Blk.new _ _ _⟩), (fun h' => absurd (h.da (listed_set h' (by decide))) (by rw [hun]; simp)), (fun h' => h.f10 (listed_set h' (by decide))), (fun _ => listed_at (by omega)), h.low.trans (hb.mono h.low.size)⟩
theorem LR1.up9 (h : LR1 V B DV SV HV TV ua pz l w s10 s11 s63 s64 s65 s66 s67 s68 s69 s70) (hsz : l.size = 11) {q : Nat} {u0 u1 u2 u3 u4 : Value} (hA : l.getD 8 false = true) (e8 : s10 = .pointer (some ⟨q, 0, none⟩)) (hq : V.heap.size ≤ q) (hz : Blk w q 28 #[.slice none 0 0, .slice none 0 0, .slice none 0 0, .int .i64 0, .slice none 0 0]) (ho : MDk w B (.agg #[u0, u1, u2, u3, u4]) ua) : LR1 V B DV SV HV TV ua pz (l.setIfInBounds 9 true) (((((w.setCell ⟨q, 0, none⟩ u0).setCell ⟨q, 1, none⟩ u1).setCell ⟨q, 2, none⟩ u2).setCell ⟨q, 3, none⟩ u3).setCell ⟨q, 4, none⟩ u4) s10 s11 s63 s64 s65 s66 s67 s68 s69 s70 := by
  exact ⟨(fun h' => h.f0 (listed_set h' (by decide))), (fun h' => h.f1 (listed_set h' (by decide))), (fun h' => h.f2 (listed_set h' (by decide))), (fun h' => h.f3 (listed_set h' (by decide))), (fun h' => (let ⟨x, y, e, hp, hq⟩ := h.f4 (listed_set h' (by decide)); ⟨x, y, e, own_md5 (hp) hz, hq⟩)), (fun h' => (let ⟨x, y, e, hp, hq⟩ := h.f5 (listed_set h' (by decide)); ⟨x, y, e, own_md5 (hp) hz, hq⟩)), (fun h' => own_md5 (h.f6 (listed_set h' (by decide))) hz), (fun h' => h.f7 (listed_set h' (by decide))), (fun h' => (let ⟨q, e, hq, hh⟩ := h.f8 (listed_set h' (by decide)); ⟨q, e, hq, fun hn => by rw [listed_at (by omega)] at hn; cases hn⟩)), (fun _ => ⟨q, u0, u1, u2, u3, u4, e8, hq, hz.set5 u0 u1 u2 u3 u4, own_md5 (ho) hz⟩), (fun h' => h.f10 (listed_set h' (by decide))), (fun _ => by rw [listed_same (by decide)]; exact hA), below_dk5 h.low hq⟩
theorem LR1.up10 (h : LR1 V B DV SV HV TV ua pz l w s10 s11 s63 s64 s65 s66 s67 s68 s69 s70) (hv : v = .int .i64 pz) : LR1 V B DV SV HV TV ua pz (l.setIfInBounds 10 true) w s10 v s63 s64 s65 s66 s67 s68 s69 s70 := by
  exact ⟨(fun h' => h.f0 (listed_set h' (by decide))), (fun h' => h.f1 (listed_set h' (by decide))), (fun h' => h.f2 (listed_set h' (by decide))), (fun h' => h.f3 (listed_set h' (by decide))), (fun h' => h.f4 (listed_set h' (by decide))), (fun h' => h.f5 (listed_set h' (by decide))), (fun h' => h.f6 (listed_set h' (by decide))), (fun h' => h.f7 (listed_set h' (by decide))), (fun h' => (let ⟨q, e, hq, hh⟩ := h.f8 (listed_set h' (by decide)); ⟨q, e, hq, fun hn => hh (by rwa [listed_same (by decide)] at hn)⟩)), (fun h' => h.f9 (listed_set h' (by decide))), (fun _ => hv), (fun h' => by rw [listed_same (by decide)] at h' ⊢; exact h.da h'), h.low⟩
end
/-- What is known of the operations that have come up. -/
structure LR2 (V : World) (B : Nat) (DV SV HV TV : Value) (ua : Dk) (pz : Int) (l : Array Bool) (w : World) (s12 s13 s71 s72 s73 s74 s75 s76 s77 s78 : Value) : Prop where
  f0 : l.getD 0 false = true → s72 = DV
  f1 : l.getD 1 false = true → s73 = SV
  f2 : l.getD 2 false = true → s74 = HV
  f3 : l.getD 3 false = true → s75 = TV
  f4 : l.getD 4 false = true → ∃ x y, s76 = .tuple #[x, y] ∧ MDk w B x ua ∧ y = .int .i64 pz
  f5 : l.getD 5 false = true → ∃ x y, s71 = .tuple #[x, y] ∧ MDk w B x ua ∧ y = .int .i64 pz
  f6 : l.getD 6 false = true → MDk w B s77 ua
  f7 : l.getD 7 false = true → s78 = .int .i64 pz
  f8 : l.getD 8 false = true → ∃ q, s12 = .pointer (some ⟨q, 0, none⟩) ∧ V.heap.size ≤ q ∧ (l.getD 9 false = false → Blk w q 28 #[.slice none 0 0, .slice none 0 0, .slice none 0 0, .int .i64 0, .slice none 0 0])
  f9 : l.getD 9 false = true → ∃ (q : Nat) (u0 u1 u2 u3 u4 : Value), s12 = .pointer (some ⟨q, 0, none⟩) ∧ V.heap.size ≤ q ∧ Blk w q 28 #[u0, u1, u2, u3, u4] ∧ MDk w B (.agg #[u0, u1, u2, u3, u4]) ua
  f10 : l.getD 10 false = true → s13 = .int .i64 pz
  da : l.getD 9 false = true → l.getD 8 false = true
  low : Below V.heap.size V w
section
variable {V : World} {B : Nat} {DV SV HV TV : Value} {ua : Dk} {pz : Int} {l : Array Bool} {w w' : World} {s12 s13 s71 s72 s73 s74 s75 s76 s77 s78 v : Value}
theorem LR2.up0 (h : LR2 V B DV SV HV TV ua pz l w s12 s13 s71 s72 s73 s74 s75 s76 s77 s78) (hv : v = DV) : LR2 V B DV SV HV TV ua pz (l.setIfInBounds 0 true) w s12 s13 s71 v s73 s74 s75 s76 s77 s78 := by
  exact ⟨(fun _ => hv), (fun h' => h.f1 (listed_set h' (by decide))), (fun h' => h.f2 (listed_set h' (by decide))), (fun h' => h.f3 (listed_set h' (by decide))), (fun h' => h.f4 (listed_set h' (by decide))), (fun h' => h.f5 (listed_set h' (by decide))), (fun h' => h.f6 (listed_set h' (by decide))), (fun h' => h.f7 (listed_set h' (by decide))), (fun h' => (let ⟨q, e, hq, hh⟩ := h.f8 (listed_set h' (by decide)); ⟨q, e, hq, fun hn => hh (by rwa [listed_same (by decide)] at hn)⟩)), (fun h' => h.f9 (listed_set h' (by decide))), (fun h' => h.f10 (listed_set h' (by decide))), (fun h' => by rw [listed_same (by decide)] at h' ⊢; exact h.da h'), h.low⟩
theorem LR2.up1 (h : LR2 V B DV SV HV TV ua pz l w s12 s13 s71 s72 s73 s74 s75 s76 s77 s78) (hv : v = SV) : LR2 V B DV SV HV TV ua pz (l.setIfInBounds 1 true) w s12 s13 s71 s72 v s74 s75 s76 s77 s78 := by
  exact ⟨(fun h' => h.f0 (listed_set h' (by decide))), (fun _ => hv), (fun h' => h.f2 (listed_set h' (by decide))), (fun h' => h.f3 (listed_set h' (by decide))), (fun h' => h.f4 (listed_set h' (by decide))), (fun h' => h.f5 (listed_set h' (by decide))), (fun h' => h.f6 (listed_set h' (by decide))), (fun h' => h.f7 (listed_set h' (by decide))), (fun h' => (let ⟨q, e, hq, hh⟩ := h.f8 (listed_set h' (by decide)); ⟨q, e, hq, fun hn => hh (by rwa [listed_same (by decide)] at hn)⟩)), (fun h' => h.f9 (listed_set h' (by decide))), (fun h' => h.f10 (listed_set h' (by decide))), (fun h' => by rw [listed_same (by decide)] at h' ⊢; exact h.da h'), h.low⟩
theorem LR2.up2 (h : LR2 V B DV SV HV TV ua pz l w s12 s13 s71 s72 s73 s74 s75 s76 s77 s78) (hv : v = HV) : LR2 V B DV SV HV TV ua pz (l.setIfInBounds 2 true) w s12 s13 s71 s72 s73 v s75 s76 s77 s78 := by
  exact ⟨(fun h' => h.f0 (listed_set h' (by decide))), (fun h' => h.f1 (listed_set h' (by decide))), (fun _ => hv), (fun h' => h.f3 (listed_set h' (by decide))), (fun h' => h.f4 (listed_set h' (by decide))), (fun h' => h.f5 (listed_set h' (by decide))), (fun h' => h.f6 (listed_set h' (by decide))), (fun h' => h.f7 (listed_set h' (by decide))), (fun h' => (let ⟨q, e, hq, hh⟩ := h.f8 (listed_set h' (by decide)); ⟨q, e, hq, fun hn => hh (by rwa [listed_same (by decide)] at hn)⟩)), (fun h' => h.f9 (listed_set h' (by decide))), (fun h' => h.f10 (listed_set h' (by decide))), (fun h' => by rw [listed_same (by decide)] at h' ⊢; exact h.da h'), h.low⟩
theorem LR2.up3 (h : LR2 V B DV SV HV TV ua pz l w s12 s13 s71 s72 s73 s74 s75 s76 s77 s78) (hv : v = TV) : LR2 V B DV SV HV TV ua pz (l.setIfInBounds 3 true) w s12 s13 s71 s72 s73 s74 v s76 s77 s78 := by
  exact ⟨(fun h' => h.f0 (listed_set h' (by decide))), (fun h' => h.f1 (listed_set h' (by decide))), (fun h' => h.f2 (listed_set h' (by decide))), (fun _ => hv), (fun h' => h.f4 (listed_set h' (by decide))), (fun h' => h.f5 (listed_set h' (by decide))), (fun h' => h.f6 (listed_set h' (by decide))), (fun h' => h.f7 (listed_set h' (by decide))), (fun h' => (let ⟨q, e, hq, hh⟩ := h.f8 (listed_set h' (by decide)); ⟨q, e, hq, fun hn => hh (by rwa [listed_same (by decide)] at hn)⟩)), (fun h' => h.f9 (listed_set h' (by decide))), (fun h' => h.f10 (listed_set h' (by decide))), (fun h' => by rw [listed_same (by decide)] at h' ⊢; exact h.da h'), h.low⟩
theorem LR2.up4 (h : LR2 V B DV SV HV TV ua pz l w s12 s13 s71 s72 s73 s74 s75 s76 s77 s78) (hv : ∃ x y, v = .tuple #[x, y] ∧ MDk w' B x ua ∧ y = .int .i64 pz) (hb : Below w.heap.size w w') : LR2 V B DV SV HV TV ua pz (l.setIfInBounds 4 true) w' s12 s13 s71 s72 s73 s74 s75 v s77 s78 := by
  exact ⟨(fun h' => h.f0 (listed_set h' (by decide))), (fun h' => h.f1 (listed_set h' (by decide))), (fun h' => h.f2 (listed_set h' (by decide))), (fun h' => h.f3 (listed_set h' (by decide))), (fun _ => hv), (fun h' => (let ⟨x, y, e, hp, hq⟩ := h.f5 (listed_set h' (by decide)); ⟨x, y, e, MDk.below (hp) hb (Nat.le_refl _), hq⟩)), (fun h' => MDk.below (h.f6 (listed_set h' (by decide))) hb (Nat.le_refl _)), (fun h' => h.f7 (listed_set h' (by decide))), (fun h' => (let ⟨q, e, hq, hh⟩ := h.f8 (listed_set h' (by decide)); ⟨q, e, hq, fun hn => let b := hh (by rwa [listed_same (by decide)] at hn); b.below hb b.lt⟩)), (fun h' => (let ⟨q, u0, u1, u2, u3, u4, e, hq, b, ho⟩ := h.f9 (listed_set h' (by decide)); ⟨q, u0, u1, u2, u3, u4, e, hq, b.below hb b.lt, MDk.below (ho) hb (Nat.le_refl _)⟩)), (fun h' => h.f10 (listed_set h' (by decide))), (fun h' => by rw [listed_same (by decide)] at h' ⊢; exact h.da h'), h.low.trans (hb.mono h.low.size)⟩
theorem LR2.up5 (h : LR2 V B DV SV HV TV ua pz l w s12 s13 s71 s72 s73 s74 s75 s76 s77 s78) (hv : ∃ x y, v = .tuple #[x, y] ∧ MDk w B x ua ∧ y = .int .i64 pz) : LR2 V B DV SV HV TV ua pz (l.setIfInBounds 5 true) w s12 s13 v s72 s73 s74 s75 s76 s77 s78 := by
  exact ⟨(fun h' => h.f0 (listed_set h' (by decide))), (fun h' => h.f1 (listed_set h' (by decide))), (fun h' => h.f2 (listed_set h' (by decide))), (fun h' => h.f3 (listed_set h' (by decide))), (fun h' => h.f4 (listed_set h' (by decide))), (fun _ => hv), (fun h' => h.f6 (listed_set h' (by decide))), (fun h' => h.f7 (listed_set h' (by decide))), (fun h' => (let ⟨q, e, hq, hh⟩ := h.f8 (listed_set h' (by decide)); ⟨q, e, hq, fun hn => hh (by rwa [listed_same (by decide)] at hn)⟩)), (fun h' => h.f9 (listed_set h' (by decide))), (fun h' => h.f10 (listed_set h' (by decide))), (fun h' => by rw [listed_same (by decide)] at h' ⊢; exact h.da h'), h.low⟩
theorem LR2.up6 (h : LR2 V B DV SV HV TV ua pz l w s12 s13 s71 s72 s73 s74 s75 s76 s77 s78) (hv : MDk w B v ua) : LR2 V B DV SV HV TV ua pz (l.setIfInBounds 6 true) w s12 s13 s71 s72 s73 s74 s75 s76 v s78 := by
  exact ⟨(fun h' => h.f0 (listed_set h' (by decide))), (fun h' => h.f1 (listed_set h' (by decide))), (fun h' => h.f2 (listed_set h' (by decide))), (fun h' => h.f3 (listed_set h' (by decide))), (fun h' => h.f4 (listed_set h' (by decide))), (fun h' => h.f5 (listed_set h' (by decide))), (fun _ => hv), (fun h' => h.f7 (listed_set h' (by decide))), (fun h' => (let ⟨q, e, hq, hh⟩ := h.f8 (listed_set h' (by decide)); ⟨q, e, hq, fun hn => hh (by rwa [listed_same (by decide)] at hn)⟩)), (fun h' => h.f9 (listed_set h' (by decide))), (fun h' => h.f10 (listed_set h' (by decide))), (fun h' => by rw [listed_same (by decide)] at h' ⊢; exact h.da h'), h.low⟩
theorem LR2.up7 (h : LR2 V B DV SV HV TV ua pz l w s12 s13 s71 s72 s73 s74 s75 s76 s77 s78) (hv : v = .int .i64 pz) : LR2 V B DV SV HV TV ua pz (l.setIfInBounds 7 true) w s12 s13 s71 s72 s73 s74 s75 s76 s77 v := by
  exact ⟨(fun h' => h.f0 (listed_set h' (by decide))), (fun h' => h.f1 (listed_set h' (by decide))), (fun h' => h.f2 (listed_set h' (by decide))), (fun h' => h.f3 (listed_set h' (by decide))), (fun h' => h.f4 (listed_set h' (by decide))), (fun h' => h.f5 (listed_set h' (by decide))), (fun h' => h.f6 (listed_set h' (by decide))), (fun _ => hv), (fun h' => (let ⟨q, e, hq, hh⟩ := h.f8 (listed_set h' (by decide)); ⟨q, e, hq, fun hn => hh (by rwa [listed_same (by decide)] at hn)⟩)), (fun h' => h.f9 (listed_set h' (by decide))), (fun h' => h.f10 (listed_set h' (by decide))), (fun h' => by rw [listed_same (by decide)] at h' ⊢; exact h.da h'), h.low⟩
theorem LR2.up8 (h : LR2 V B DV SV HV TV ua pz l w s12 s13 s71 s72 s73 s74 s75 s76 s77 s78) (hsz : l.size = 11) (hun : l.getD 8 false = false) : LR2 V B DV SV HV TV ua pz (l.setIfInBounds 8 true) (w.alloc (.cells #[.slice none 0 0, .slice none 0 0, .slice none 0 0, .int .i64 0, .slice none 0 0] 28)) (.pointer (some ⟨w.heap.size, 0, none⟩)) s13 s71 s72 s73 s74 s75 s76 s77 s78 := by
  have hb := (Below.refl w.heap.size w).alloc (Nat.le_refl _) (.cells #[.slice none 0 0, .slice none 0 0, .slice none 0 0, .int .i64 0, .slice none 0 0] 28)
  exact ⟨(fun h' => h.f0 (listed_set h' (by decide))), (fun h' => h.f1 (listed_set h' (by decide))), (fun h' => h.f2 (listed_set h' (by decide))), (fun h' => h.f3 (listed_set h' (by decide))), (fun h' => (let ⟨x, y, e, hp, hq⟩ := h.f4 (listed_set h' (by decide)); ⟨x, y, e, MDk.below (hp) hb (Nat.le_refl _), hq⟩)), (fun h' => (let ⟨x, y, e, hp, hq⟩ := h.f5 (listed_set h' (by decide)); ⟨x, y, e, MDk.below (hp) hb (Nat.le_refl _), hq⟩)), (fun h' => MDk.below (h.f6 (listed_set h' (by decide))) hb (Nat.le_refl _)), (fun h' => h.f7 (listed_set h' (by decide))), (fun _ => ⟨w.heap.size, rfl, h.low.size, fun _ => Blk.new _ _ _⟩), (fun h' => absurd (h.da (listed_set h' (by decide))) (by rw [hun]; simp)), (fun h' => h.f10 (listed_set h' (by decide))), (fun _ => listed_at (by omega)), h.low.trans (hb.mono h.low.size)⟩
theorem LR2.up9 (h : LR2 V B DV SV HV TV ua pz l w s12 s13 s71 s72 s73 s74 s75 s76 s77 s78) (hsz : l.size = 11) {q : Nat} {u0 u1 u2 u3 u4 : Value} (hA : l.getD 8 false = true) (e8 : s12 = .pointer (some ⟨q, 0, none⟩)) (hq : V.heap.size ≤ q) (hz : Blk w q 28 #[.slice none 0 0, .slice none 0 0, .slice none 0 0, .int .i64 0, .slice none 0 0]) (ho : MDk w B (.agg #[u0, u1, u2, u3, u4]) ua) : LR2 V B DV SV HV TV ua pz (l.setIfInBounds 9 true) (((((w.setCell ⟨q, 0, none⟩ u0).setCell ⟨q, 1, none⟩ u1).setCell ⟨q, 2, none⟩ u2).setCell ⟨q, 3, none⟩ u3).setCell ⟨q, 4, none⟩ u4) s12 s13 s71 s72 s73 s74 s75 s76 s77 s78 := by
  exact ⟨(fun h' => h.f0 (listed_set h' (by decide))), (fun h' => h.f1 (listed_set h' (by decide))), (fun h' => h.f2 (listed_set h' (by decide))), (fun h' => h.f3 (listed_set h' (by decide))), (fun h' => (let ⟨x, y, e, hp, hq⟩ := h.f4 (listed_set h' (by decide)); ⟨x, y, e, own_md5 (hp) hz, hq⟩)), (fun h' => (let ⟨x, y, e, hp, hq⟩ := h.f5 (listed_set h' (by decide)); ⟨x, y, e, own_md5 (hp) hz, hq⟩)), (fun h' => own_md5 (h.f6 (listed_set h' (by decide))) hz), (fun h' => h.f7 (listed_set h' (by decide))), (fun h' => (let ⟨q, e, hq, hh⟩ := h.f8 (listed_set h' (by decide)); ⟨q, e, hq, fun hn => by rw [listed_at (by omega)] at hn; cases hn⟩)), (fun _ => ⟨q, u0, u1, u2, u3, u4, e8, hq, hz.set5 u0 u1 u2 u3 u4, own_md5 (ho) hz⟩), (fun h' => h.f10 (listed_set h' (by decide))), (fun _ => by rw [listed_same (by decide)]; exact hA), below_dk5 h.low hq⟩
theorem LR2.up10 (h : LR2 V B DV SV HV TV ua pz l w s12 s13 s71 s72 s73 s74 s75 s76 s77 s78) (hv : v = .int .i64 pz) : LR2 V B DV SV HV TV ua pz (l.setIfInBounds 10 true) w s12 v s71 s72 s73 s74 s75 s76 s77 s78 := by
  exact ⟨(fun h' => h.f0 (listed_set h' (by decide))), (fun h' => h.f1 (listed_set h' (by decide))), (fun h' => h.f2 (listed_set h' (by decide))), (fun h' => h.f3 (listed_set h' (by decide))), (fun h' => h.f4 (listed_set h' (by decide))), (fun h' => h.f5 (listed_set h' (by decide))), (fun h' => h.f6 (listed_set h' (by decide))), (fun h' => h.f7 (listed_set h' (by decide))), (fun h' => (let ⟨q, e, hq, hh⟩ := h.f8 (listed_set h' (by decide)); ⟨q, e, hq, fun hn => hh (by rwa [listed_same (by decide)] at hn)⟩)), (fun h' => h.f9 (listed_set h' (by decide))), (fun _ => hv), (fun h' => by rw [listed_same (by decide)] at h' ⊢; exact h.da h'), h.low⟩
end
set_option maxRecDepth 100000 in
set_option maxHeartbeats 8000000 in
theorem walk (w : World) (A : Option Addr) (n c : Nat) (xs : List Int) (h : Ints w .u8 A n c xs) (hwf : ∀ x ∈ xs, (Lit.int .u8 x).wf = true) (hc : c ≤ maxLen) :
    Calls Try.prog 3 #[.slice A n c] w fun e w' => e = .returned (.bool true) ∧ Below w.heap.size w w' := by
  have hn : n ≤ 9223372036854775807 := by have := h.le; unfold maxLen at hc; omega
  by_cases hl : n ≤ 1048576
  · have HD := Lib.hid (drawDeskRun_any A n c xs w h hl hwf hc)
    clear h hwf hc
    go_enter Try.func3, Try.ntmps3
    go_wp2_with (fail)
    refine HD.out.mono ?_
    rintro e w1 ⟨v, d, LA, LC, qs, rfl, ho, hsm, hqs, hq41, hb⟩
    obtain ⟨A1, c1, A2, c2, A3, c3, A5, c5, rfl, -⟩ := ho.dsk.ex
    have hf := Lib.hid hsm.fine
    have hba := (Below.refl w1.heap.size w1).alloc (Nat.le_refl _) (.cells #[.slice A1 d.t.us.length c1, .slice A2 d.t.bs.length c2, .slice A3 d.t.ns.length c3, .int .i64 d.now, .slice A5 d.past.length c5] 28)
    have BD := Lib.hid (BXM.new ho)
    have HQ := Lib.hid (hqs.below hba (Nat.le_refl _))
    have HB := Lib.hid (hb.trans (hba.mono hb.size))
    clear ho hsm hb hba HD hqs
    generalize hN : qs.length = N at *
    replace hN := Lib.hid hN
    go_upto_region 4 with (fail)
    generalize w1.alloc (.cells #[.slice A1 d.t.us.length c1, .slice A2 d.t.bs.length c2, .slice A3 d.t.ns.length c3, .int .i64 d.now, .slice A5 d.past.length c5] 28) = W at *
    generalize w1.heap.size = qd at *
    have K1 := Lib.hid (implDeskRun_any _ d LA N LC qs W BD.out.o.dsk hf.out HQ.out (by omega))
    have hrf := Lib.hid (fun l => runFine hf.out l)
    have hrl := Lib.hid (fun l => runLen d l)
    have hno := Lib.hid (run_no (d := d) (l := qs))
    have hru := Lib.hid (fun (hk : dkOk d = true) (hl : qs.length ≤ 40) => run_two (k := N / 2) hk hl)
    have hro := Lib.hid (fun (hk : dkOk d = true ∧ qs.length ≤ 40) => (run_yes hk).symm ▸ (run_ok hk.1 qs).1 : (dkOk d = true ∧ qs.length ≤ 40) → dkOk (dkRun d qs).1 = true)
    obtain ⟨u, hu⟩ : ∃ u, (dkRun d qs).1 = u := ⟨_, rfl⟩
    obtain ⟨m, hm⟩ : ∃ m, (dkRun d qs).2 = m := ⟨_, rfl⟩
    have huf : Hid u.Fine := Lib.hid (by rw [← hu]; exact hrf.out qs)
    have hm40 : m ≤ 40 := by rw [← hm]; exact hrl.out qs
    rw [hu, hm] at K1
    simp only [hu, hm] at hru hro
    have K2 := Lib.hid (fun W' (o : Dsk W' (.agg #[.slice A1 d.t.us.length c1, .slice A2 d.t.bs.length c2, .slice A3 d.t.ns.length c3, .int .i64 d.now, .slice A5 d.past.length c5]) d) (hq : DeedsAre W' LA N LC qs) => specDeskRun_any _ d LA N LC qs W' o hf.out hq (by omega))
    simp only [hu, hm] at K2
    replace hu := Lib.hid hu
    replace hm := Lib.hid hm
    have hne : ((m : Int) != (m : Int)) = false := by simp
    obtain ⟨x0, x1, x2, x3, x4⟩ := (blk5 BD.out.k).1
    go_wp2_with (go_at_call 7; refine K1.out.mono ?_; rintro e w2 ⟨v2, rfl, o2, b2⟩; obtain ⟨X1, k1, X2, k2, X3, k3, X5, k5, rfl, -⟩ := o2.dsk.ex; refine Hid.out ?_)
    have hA2 := (Below.refl w2.heap.size w2).alloc (Nat.le_refl _) (.cells #[.slice X1 u.t.us.length k1, .slice X2 u.t.bs.length k2, .slice X3 u.t.ns.length k3, .int .i64 u.now, .slice X5 u.past.length k5] 28)
    have c2 := b2.trans (hA2.mono b2.size)
    have hWz := Lib.hid HB.out.size
    replace BD := Lib.hid (BD.out.step c2)
    replace HQ := Lib.hid (HQ.out.below c2 (Nat.le_refl _))
    replace HB := Lib.hid (HB.out.trans (c2.mono HB.out.size))
    have BU := Lib.hid ((BXM.new o2.m).mono hWz.out)
    clear hA2 c2 b2 o2 x0 x1 x2 x3 x4
    refine Lib.hid ?_
    go_upto_region 5 with (fail)
    generalize w2.alloc (.cells #[.slice X1 u.t.us.length k1, .slice X2 u.t.bs.length k2, .slice X3 u.t.ns.length k3, .int .i64 u.now, .slice X5 u.past.length k5] 28) = W3 at *
    generalize w2.heap.size = qu at *
    obtain ⟨x0, x1, x2, x3, x4⟩ := (blk5 BD.out.k).1
    have K3 := Lib.hid (K2.out W3 BD.out.o.dsk HQ.out)
    go_wp2_with (go_at_call 8; refine K3.out.mono ?_; rintro e w4 ⟨v4, rfl, o4, b4⟩; obtain ⟨Y1, j1, Y2, j2, Y3, j3, Y5, j5, rfl, -⟩ := o4.dsk.ex; refine Hid.out ?_)
    clear K1 K2 K3
    have hA4 := (Below.refl w4.heap.size w4).alloc (Nat.le_refl _) (.cells #[.slice Y1 u.t.us.length j1, .slice Y2 u.t.bs.length j2, .slice Y3 u.t.ns.length j3, .int .i64 u.now, .slice Y5 u.past.length j5] 28)
    have c4 := b4.trans (hA4.mono b4.size)
    replace BD := Lib.hid (BD.out.step c4)
    replace BU := Lib.hid (BU.out.step c4)
    replace HQ := Lib.hid (HQ.out.below c4 (Nat.le_refl _))
    replace HB := Lib.hid (HB.out.trans (c4.mono HB.out.size))
    have BG := Lib.hid (BXM.new o4)
    clear hA4 c4 b4 o4 x0 x1 x2 x3 x4
    refine Lib.hid ?_
    go_upto_region 6 with (fail)
    generalize w4.alloc (.cells #[.slice Y1 u.t.us.length j1, .slice Y2 u.t.bs.length j2, .slice Y3 u.t.ns.length j3, .int .i64 u.now, .slice Y5 u.past.length j5] 28) = W5 at *
    generalize w4.heap.size = qg at *
    obtain ⟨x0, x1, x2, x3, x4⟩ := (blk5 BU.out.k).1
    obtain ⟨z0, z1, z2, z3, z4⟩ := (blk5 BG.out.k).1
    have K4 := Lib.hid (sameDesk_same _ _ u W5 BU.out.o.dsk BG.out.o.dsk huf.out)
    go_wp2_with (fail)
    refine K4.out.mono ?_
    rintro e w6 ⟨rfl, b6⟩
    replace BD := Lib.hid (BD.out.step b6)
    replace BU := Lib.hid (BU.out.step b6)
    replace HQ := Lib.hid (HQ.out.below b6 (Nat.le_refl _))
    replace HB := Lib.hid (HB.out.trans (b6.mono HB.out.size))
    clear b6 x0 x1 x2 x3 x4 z0 z1 z2 z3 z4 K4 BG
    obtain ⟨x0, x1, x2, x3, x4⟩ := (blk5 BD.out.k).1
    have K5 := Lib.hid (specDeskOk_any _ d w6 BD.out.o.dsk hf.out)
    cases hdk : dkOk d
    · have hz : u = noDk ∧ m = 0 := by
        have := hno.out (by rw [hdk]; simp)
        rw [← hu.out, ← hm.out, this]; exact ⟨rfl, rfl⟩
      replace hz := Lib.hid hz
      rw [hdk] at K5
      replace hdk := Lib.hid hdk
      go_wp2_with (fail)
      refine K5.out.mono ?_
      rintro e w7 ⟨rfl, b7⟩
      replace BU := Lib.hid (BU.out.step b7)
      replace HB := Lib.hid (HB.out.trans (b7.mono HB.out.size))
      clear b7 x0 x1 x2 x3 x4 K5 BD HQ
      have hm0 : ((m : Int) == 0) = true := by rw [hz.out.2]; rfl
      have hm1 : (m : Int) = 0 := by rw [hz.out.2]; rfl
      have OXN : Dsk w7 (.agg #[.slice X1 u.t.us.length k1, .slice X2 u.t.bs.length k2, .slice X3 u.t.ns.length k3, .int .i64 u.now, .slice X5 u.past.length k5]) noDk := by rw [← hz.out.1]; exact BU.out.o.dsk
      have K5 := Lib.hid (noDesk_no _ w7 OXN)
      clear OXN
      obtain ⟨x0, x1, x2, x3, x4⟩ := (blk5 BU.out.k).1
      go_wp2_with (go_at_call 11; refine K5.out.mono ?_; rintro e w8 ⟨rfl, b8⟩; refine Hid.out ?_)
      replace HB := Lib.hid (HB.out.trans (b8.mono HB.out.size))
      clear b8 x0 x1 x2 x3 x4
      refine Lib.hid ?_
      go_wp2_with (fail)
      refine (alive_any _).mono ?_
      rintro e w9 ⟨rfl, b9⟩
      replace HB := Lib.hid (HB.out.trans (b9.mono HB.out.size))
      clear b9
      go_wp2
      go_ret
      exact ⟨rfl, HB.out⟩
    · by_cases h40 : N ≤ 40
      · have g1 : ¬ (40 < (N : Int)) := by omega
        have g2 : decide (40 < (N : Int)) = false := decide_eq_false g1
        rw [hdk] at K5
        have htwo := Lib.hid (hru.out hdk (by rw [hN.out]; exact h40))
        have huo := Lib.hid (hro.out ⟨hdk, by rw [hN.out]; exact h40⟩)
        have hdk' := Lib.hid hdk
        clear hdk hno hru hro
        go_wp2_with (fail)
        refine K5.out.mono ?_
        rintro e w7 ⟨rfl, b7⟩
        replace BD := Lib.hid (BD.out.step b7)
        replace BU := Lib.hid (BU.out.step b7)
        replace HQ := Lib.hid (HQ.out.below b7 (Nat.le_refl _))
        replace HB := Lib.hid (HB.out.trans (b7.mono HB.out.size))
        clear b7 x0 x1 x2 x3 x4 K5
        obtain ⟨H, hH⟩ : ∃ H : Nat, N / 2 = H := ⟨_, rfl⟩
        have hHN : H ≤ N := by omega
        have hq1 : (N : Int).tdiv 2 = (H : Int) := by rw [Int.tdiv_eq_ediv_of_nonneg (by omega)]; omega
        have hq2 : IntKind.i64.wrap ((N : Int).tdiv 2) = (H : Int) := by rw [hq1]; exact IntWalk.i64_in _ (by omega)
        have hs1 := fun W => HQ.out.cutHi H hHN W
        obtain ⟨LB, hs2, hq2'⟩ := HQ.out.cutLo H hHN
        have hq1' := Lib.hid (HQ.out.take H hHN)
        replace hq2' := Lib.hid hq2'
        simp only [hH] at htwo
        obtain ⟨ua, hua⟩ : ∃ ua, (dkRun d (qs.take H)).1 = ua := ⟨_, rfl⟩
        obtain ⟨pa, hpa⟩ : ∃ pa, (dkRun d (qs.take H)).2 = pa := ⟨_, rfl⟩
        have hpl : pa ≤ 40 := by rw [← hpa]; exact hrl.out _
        have hfa : Hid ua.Fine := Lib.hid (by rw [← hua]; exact hrf.out _)
        simp only [hua, hpa] at htwo
        obtain ⟨pb, hpb⟩ : ∃ pb, (dkRun ua (qs.drop H)).2 = pb := ⟨_, rfl⟩
        have hpbl : pb ≤ 40 := by rw [← hpb]; exact runLen _ _
        simp only [hpb] at htwo
        have hsum := htwo.out.2
        have hsum2 : (pa : Int) + (pb : Int) = (m : Int) := by omega
        have hsum3 : IntKind.i64.wrap ((pa : Int) + (pb : Int)) = (m : Int) := by rw [hsum2]; exact IntWalk.i64_in _ (by omega)
        replace hsum := Lib.hid hsum
        have hc1 := Lib.hid htwo.out.1
        have K6 := Lib.hid (fun W (hb : Below w7.heap.size w7 W) => implDeskRun_any _ d LA H LC (qs.take H) W (BD.out.step hb).o.dsk hf.out (hq1'.out.below hb (Nat.le_refl _)) (by omega))
        simp only [hua, hpa] at K6
        have K7 := Lib.hid (fun v W (hb : Below w7.heap.size w7 W) (o : Dsk W v ua) => implDeskRun_any v ua LB (N - H) (LC - H) (qs.drop H) W o hfa.out (hq2'.out.below hb (Nat.le_refl _)) (by omega))
        simp only [hpb, hc1.out] at K7
        have hXc := Lib.hid (fun W (hb : Below w7.heap.size w7 W) => (blk5 (BD.out.step hb).k).1)
        replace hua := Lib.hid hua
        replace hpa := Lib.hid hpa
        replace hpb := Lib.hid hpb
        replace hH := Lib.hid hH
        clear hq1' hq2' htwo
        have hwz7 := HB.out.size
        go_upto_region 11 with (fail)
        refine wp_region_any (by kernel_rfl) ?_
        refine wpAny_inv (Inv := fun l a w' => ∃ (s10 s11 s63 s64 s65 s66 s67 s68 s69 s70 : Value), a = ⟨#[Value.slice A n c, undef, Value.bool false, Value.pointer (some { block := qd, off := 0 }), Value.slice LA N LC, Value.pointer (some { block := qu, off := 0 }), Value.int IntKind.i64 (m : Int), Value.pointer (some { block := qg, off := 0 }), Value.int IntKind.i64 (m : Int), Value.int IntKind.i64 (H : Int), s10, s11, undef, undef, Value.slice A n c, Value.int IntKind.i64 (n : Int), Value.bool (decide (1048576 < (n : Int))), Value.tuple #[Value.agg #[Value.slice A1 d.t.us.length c1, Value.slice A2 d.t.bs.length c2, Value.slice A3 d.t.ns.length c3, Value.int IntKind.i64 d.now, Value.slice A5 d.past.length c5], Value.slice LA N LC], Value.slice A n c, Value.tuple #[Value.agg #[Value.slice A1 d.t.us.length c1, Value.slice A2 d.t.bs.length c2, Value.slice A3 d.t.ns.length c3, Value.int IntKind.i64 d.now, Value.slice A5 d.past.length c5], Value.slice LA N LC], Value.agg #[Value.slice A1 d.t.us.length c1, Value.slice A2 d.t.bs.length c2, Value.slice A3 d.t.ns.length c3, Value.int IntKind.i64 d.now, Value.slice A5 d.past.length c5], Value.slice LA N LC, Value.tuple #[Value.agg #[Value.slice X1 u.t.us.length k1, Value.slice X2 u.t.bs.length k2, Value.slice X3 u.t.ns.length k3, Value.int IntKind.i64 u.now, Value.slice X5 u.past.length k5], Value.int IntKind.i64 (m : Int)], Value.agg #[Value.slice A1 d.t.us.length c1, Value.slice A2 d.t.bs.length c2, Value.slice A3 d.t.ns.length c3, Value.int IntKind.i64 d.now, Value.slice A5 d.past.length c5], Value.slice LA N LC, Value.tuple #[Value.agg #[Value.slice X1 u.t.us.length k1, Value.slice X2 u.t.bs.length k2, Value.slice X3 u.t.ns.length k3, Value.int IntKind.i64 u.now, Value.slice X5 u.past.length k5], Value.int IntKind.i64 (m : Int)], Value.agg #[Value.slice X1 u.t.us.length k1, Value.slice X2 u.t.bs.length k2, Value.slice X3 u.t.ns.length k3, Value.int IntKind.i64 u.now, Value.slice X5 u.past.length k5], Value.int IntKind.i64 (m : Int), Value.tuple #[Value.agg #[Value.slice Y1 u.t.us.length j1, Value.slice Y2 u.t.bs.length j2, Value.slice Y3 u.t.ns.length j3, Value.int IntKind.i64 u.now, Value.slice Y5 u.past.length j5], Value.int IntKind.i64 (m : Int)], Value.agg #[Value.slice A1 d.t.us.length c1, Value.slice A2 d.t.bs.length c2, Value.slice A3 d.t.ns.length c3, Value.int IntKind.i64 d.now, Value.slice A5 d.past.length c5], Value.slice LA N LC, Value.tuple #[Value.agg #[Value.slice Y1 u.t.us.length j1, Value.slice Y2 u.t.bs.length j2, Value.slice Y3 u.t.ns.length j3, Value.int IntKind.i64 u.now, Value.slice Y5 u.past.length j5], Value.int IntKind.i64 (m : Int)], Value.agg #[Value.slice Y1 u.t.us.length j1, Value.slice Y2 u.t.bs.length j2, Value.slice Y3 u.t.ns.length j3, Value.int IntKind.i64 u.now, Value.slice Y5 u.past.length j5], Value.int IntKind.i64 (m : Int), Value.agg #[Value.slice X1 u.t.us.length k1, Value.slice X2 u.t.bs.length k2, Value.slice X3 u.t.ns.length k3, Value.int IntKind.i64 u.now, Value.slice X5 u.past.length k5], Value.agg #[Value.slice Y1 u.t.us.length j1, Value.slice Y2 u.t.bs.length j2, Value.slice Y3 u.t.ns.length j3, Value.int IntKind.i64 u.now, Value.slice Y5 u.past.length j5], Value.bool true, Value.bool false, Value.bool false, Value.int IntKind.i64 (m : Int), Value.int IntKind.i64 (m : Int), Value.bool false, Value.bool false, Value.agg #[Value.slice A1 d.t.us.length c1, Value.slice A2 d.t.bs.length c2, Value.slice A3 d.t.ns.length c3, Value.int IntKind.i64 d.now, Value.slice A5 d.past.length c5], Value.bool true, Value.bool false, Value.bool false, Value.slice LA N LC, Value.int IntKind.i64 (N : Int), Value.bool false, Value.bool false, undef, undef, undef, undef, undef, undef, undef, undef, undef, Value.slice LA N LC, Value.int IntKind.i64 (N : Int), Value.int IntKind.i64 (H : Int), s63, s64, s65, s66, s67, s68, s69, s70, undef, undef, undef, undef, undef, undef, undef, undef, undef, undef, undef, undef, undef, undef, undef, undef, undef, undef, undef, undef, undef, undef], []⟩ ∧ LR1 w7 w.heap.size (.agg #[.slice A1 d.t.us.length c1, .slice A2 d.t.bs.length c2, .slice A3 d.t.ns.length c3, .int .i64 d.now, .slice A5 d.past.length c5]) (.slice LA N LC) (.int .i64 (H : Int)) (.slice LA H LC) ua (pa : Int) l w' s10 s11 s63 s64 s65 s66 s67 s68 s69 s70) (ord_spec (by kernel_rfl)) ?_ ?_ _ _ _ _ rfl (by decide) ?_
        · rintro l a w' ⟨s10, s11, s63, s64, s65, s66, s67, s68, s69, s70, rfl, hF⟩ hsz hl
          have hl' : ∀ j, j < 11 → l.getD j false = true := hl
          obtain ⟨q8, u0, u1, u2, u3, u4, e8, hq8, hbx, how⟩ := hF.f9 (hl' 9 (by decide))
          subst e8
          have e9 := hF.f10 (hl' 10 (by decide))
          subst e9
          obtain ⟨Z1, l1, Z2, l2, Z3, l3, Z5, l5, e1, -⟩ := how.dsk.ex
          injection e1 with e1
          have e1 : #[u0, u1, u2, u3, u4] = (_ : Array Value) := e1
          injection e1 with e1
          simp only [List.cons.injEq, and_true] at e1
          obtain ⟨rfl, rfl, rfl, rfl, rfl⟩ := e1
          have BA := Lib.hid (BXM.mk (q := q8) hbx how)
          replace BU := Lib.hid (BU.out.step hF.low)
          replace BD := Lib.hid (BD.out.step hF.low)
          replace HB := Lib.hid (HB.out.trans (hF.low.mono HB.out.size))
          have D8 := Lib.hid hF.low
          have hXa := Lib.hid (fun W (hb : Below w'.heap.size w' W) => (blk5 (BA.out.step hb).k).1)
          have hwz8 := HB.out.size
          clear hF hl hl' hbx how hXc
          obtain ⟨W8, hW8⟩ : ∃ W8, W8 = w' := ⟨_, rfl⟩
          subst hW8
          go_upto_region 12 with (fail)
          refine wp_region_any (by kernel_rfl) ?_
          refine wpAny_inv (Inv := fun l a w' => ∃ (s12 s13 s71 s72 s73 s74 s75 s76 s77 s78 : Value), a = ⟨#[Value.slice A n c, undef, Value.bool false, Value.pointer (some { block := qd, off := 0 }), Value.slice LA N LC, Value.pointer (some { block := qu, off := 0 }), Value.int IntKind.i64 (m : Int), Value.pointer (some { block := qg, off := 0 }), Value.int IntKind.i64 (m : Int), Value.int IntKind.i64 (H : Int), Value.pointer (some { block := q8, off := 0 }), Value.int IntKind.i64 (pa : Int), s12, s13, Value.slice A n c, Value.int IntKind.i64 (n : Int), Value.bool (decide (1048576 < (n : Int))), Value.tuple #[Value.agg #[Value.slice A1 d.t.us.length c1, Value.slice A2 d.t.bs.length c2, Value.slice A3 d.t.ns.length c3, Value.int IntKind.i64 d.now, Value.slice A5 d.past.length c5], Value.slice LA N LC], Value.slice A n c, Value.tuple #[Value.agg #[Value.slice A1 d.t.us.length c1, Value.slice A2 d.t.bs.length c2, Value.slice A3 d.t.ns.length c3, Value.int IntKind.i64 d.now, Value.slice A5 d.past.length c5], Value.slice LA N LC], Value.agg #[Value.slice A1 d.t.us.length c1, Value.slice A2 d.t.bs.length c2, Value.slice A3 d.t.ns.length c3, Value.int IntKind.i64 d.now, Value.slice A5 d.past.length c5], Value.slice LA N LC, Value.tuple #[Value.agg #[Value.slice X1 u.t.us.length k1, Value.slice X2 u.t.bs.length k2, Value.slice X3 u.t.ns.length k3, Value.int IntKind.i64 u.now, Value.slice X5 u.past.length k5], Value.int IntKind.i64 (m : Int)], Value.agg #[Value.slice A1 d.t.us.length c1, Value.slice A2 d.t.bs.length c2, Value.slice A3 d.t.ns.length c3, Value.int IntKind.i64 d.now, Value.slice A5 d.past.length c5], Value.slice LA N LC, Value.tuple #[Value.agg #[Value.slice X1 u.t.us.length k1, Value.slice X2 u.t.bs.length k2, Value.slice X3 u.t.ns.length k3, Value.int IntKind.i64 u.now, Value.slice X5 u.past.length k5], Value.int IntKind.i64 (m : Int)], Value.agg #[Value.slice X1 u.t.us.length k1, Value.slice X2 u.t.bs.length k2, Value.slice X3 u.t.ns.length k3, Value.int IntKind.i64 u.now, Value.slice X5 u.past.length k5], Value.int IntKind.i64 (m : Int), Value.tuple #[Value.agg #[Value.slice Y1 u.t.us.length j1, Value.slice Y2 u.t.bs.length j2, Value.slice Y3 u.t.ns.length j3, Value.int IntKind.i64 u.now, Value.slice Y5 u.past.length j5], Value.int IntKind.i64 (m : Int)], Value.agg #[Value.slice A1 d.t.us.length c1, Value.slice A2 d.t.bs.length c2, Value.slice A3 d.t.ns.length c3, Value.int IntKind.i64 d.now, Value.slice A5 d.past.length c5], Value.slice LA N LC, Value.tuple #[Value.agg #[Value.slice Y1 u.t.us.length j1, Value.slice Y2 u.t.bs.length j2, Value.slice Y3 u.t.ns.length j3, Value.int IntKind.i64 u.now, Value.slice Y5 u.past.length j5], Value.int IntKind.i64 (m : Int)], Value.agg #[Value.slice Y1 u.t.us.length j1, Value.slice Y2 u.t.bs.length j2, Value.slice Y3 u.t.ns.length j3, Value.int IntKind.i64 u.now, Value.slice Y5 u.past.length j5], Value.int IntKind.i64 (m : Int), Value.agg #[Value.slice X1 u.t.us.length k1, Value.slice X2 u.t.bs.length k2, Value.slice X3 u.t.ns.length k3, Value.int IntKind.i64 u.now, Value.slice X5 u.past.length k5], Value.agg #[Value.slice Y1 u.t.us.length j1, Value.slice Y2 u.t.bs.length j2, Value.slice Y3 u.t.ns.length j3, Value.int IntKind.i64 u.now, Value.slice Y5 u.past.length j5], Value.bool true, Value.bool false, Value.bool false, Value.int IntKind.i64 (m : Int), Value.int IntKind.i64 (m : Int), Value.bool false, Value.bool false, Value.agg #[Value.slice A1 d.t.us.length c1, Value.slice A2 d.t.bs.length c2, Value.slice A3 d.t.ns.length c3, Value.int IntKind.i64 d.now, Value.slice A5 d.past.length c5], Value.bool true, Value.bool false, Value.bool false, Value.slice LA N LC, Value.int IntKind.i64 (N : Int), Value.bool false, Value.bool false, undef, undef, undef, undef, undef, undef, undef, undef, undef, Value.slice LA N LC, Value.int IntKind.i64 (N : Int), Value.int IntKind.i64 (H : Int), s63, s64, s65, s66, s67, s68, s69, s70, s71, s72, s73, s74, s75, s76, s77, s78, undef, undef, undef, undef, undef, undef, undef, undef, undef, undef, undef, undef, undef, undef], []⟩ ∧ LR2 W8 w.heap.size (.agg #[.slice Z1 ua.t.us.length l1, .slice Z2 ua.t.bs.length l2, .slice Z3 ua.t.ns.length l3, .int .i64 ua.now, .slice Z5 ua.past.length l5]) (.slice LA N LC) (.int .i64 (H : Int)) (.slice LB (N - H) (LC - H)) u (pb : Int) l w' s12 s13 s71 s72 s73 s74 s75 s76 s77 s78) (ord_spec (by kernel_rfl)) ?_ ?_ _ _ _ _ rfl (by decide) ?_
          · rintro l a w' ⟨s12, s13, s71, s72, s73, s74, s75, s76, s77, s78, rfl, hF⟩ hsz hl
            have hl' : ∀ j, j < 11 → l.getD j false = true := hl
            obtain ⟨q9, u0, u1, u2, u3, u4, e8, hq9, hbx, how⟩ := hF.f9 (hl' 9 (by decide))
            subst e8
            have e9 := hF.f10 (hl' 10 (by decide))
            subst e9
            obtain ⟨G1, n1, G2, n2, G3, n3, G5, n5, e1, -⟩ := how.dsk.ex
            injection e1 with e1
            have e1 : #[u0, u1, u2, u3, u4] = (_ : Array Value) := e1
            injection e1 with e1
            simp only [List.cons.injEq, and_true] at e1
            obtain ⟨rfl, rfl, rfl, rfl, rfl⟩ := e1
            have BC := Lib.hid (BXM.mk (q := q9) hbx how)
            replace BU := Lib.hid (BU.out.step hF.low)
            replace HB := Lib.hid (HB.out.trans (hF.low.mono HB.out.size))
            clear hF hl hl' hbx how hXa BA D8 K7 hs1 hs2 BD
            obtain ⟨x0, x1, x2, x3, x4⟩ := (blk5 BU.out.k).1
            have K8 := implDeskOk_any _ u w' BU.out.o.dsk huf.out
            rw [huo.out] at K8
            replace K8 := Lib.hid K8
            go_wp2_with (fail)
            refine K8.out.mono ?_
            rintro e w9 ⟨rfl, b9⟩
            replace BU := Lib.hid (BU.out.step b9)
            replace BC := Lib.hid (BC.out.step b9)
            replace HB := Lib.hid (HB.out.trans (b9.mono HB.out.size))
            clear b9 x0 x1 x2 x3 x4 K8
            obtain ⟨x0, x1, x2, x3, x4⟩ := (blk5 BU.out.k).1
            obtain ⟨z0, z1, z2, z3, z4⟩ := (blk5 BC.out.k).1
            have K9 := Lib.hid (sameDesk_same _ _ u w9 BC.out.o.dsk BU.out.o.dsk huf.out)
            go_wp2_with (fail)
            refine K9.out.mono ?_
            rintro e wa ⟨rfl, ba⟩
            replace HB := Lib.hid (HB.out.trans (ba.mono HB.out.size))
            clear ba
            go_wp2
            go_ret
            exact ⟨ret_bool (by simp), HB.out⟩
          · rintro l a w' ⟨s12, s13, s71, s72, s73, s74, s75, s76, s77, s78, rfl, hF⟩ hsz i o hlt ho hun hall
            have hlt' : i < 11 := hlt
            refine wpOp_step ho (fun K' hK => ?_)
            replace hK := Lib.hid hK
            obtain rfl | rfl | rfl | rfl | rfl | rfl | rfl | rfl | rfl | rfl | rfl : i = 0 ∨ i = 1 ∨ i = 2 ∨ i = 3 ∨ i = 4 ∨ i = 5 ∨ i = 6 ∨ i = 7 ∨ i = 8 ∨ i = 9 ∨ i = 10 := by omega
            · simp only [List.getElem?_toArray, List.getElem?_cons_zero, Option.some.injEq] at ho
              subst ho
              obtain ⟨x0, x1, x2, x3, x4⟩ := hXa.out _ hF.low
              replace hF := Lib.hid hF
              clear hall
              go_simp
              refine hK.out _ _ ?_
              exact ⟨_, _, _, _, _, _, _, _, _, _, rfl, hF.out.up0 rfl⟩
            · simp only [List.getElem?_toArray, List.getElem?_cons_succ, List.getElem?_cons_zero, Option.some.injEq] at ho
              subst ho
              replace hF := Lib.hid hF
              clear hall
              go_simp
              refine hK.out _ _ ?_
              exact ⟨_, _, _, _, _, _, _, _, _, _, rfl, hF.out.up1 rfl⟩
            · simp only [List.getElem?_toArray, List.getElem?_cons_succ, List.getElem?_cons_zero, Option.some.injEq] at ho
              subst ho
              replace hF := Lib.hid hF
              clear hall
              go_simp
              refine hK.out _ _ ?_
              exact ⟨_, _, _, _, _, _, _, _, _, _, rfl, hF.out.up2 rfl⟩
            · simp only [List.getElem?_toArray, List.getElem?_cons_succ, List.getElem?_cons_zero, Option.some.injEq] at ho
              subst ho
              have e1 := hF.f1 (hall ⟨1, Ground.data⟩ (by simp) rfl)
              subst e1
              have e2 := hF.f2 (hall ⟨2, Ground.data⟩ (by simp) rfl)
              subst e2
              have hs1' := hs1 w'
              have hs2' := hs2 w'
              replace hF := Lib.hid hF
              clear hall
              go_simp
              refine hK.out _ _ ?_
              exact ⟨_, _, _, _, _, _, _, _, _, _, rfl, hF.out.up3 rfl⟩
            · simp only [List.getElem?_toArray, List.getElem?_cons_succ, List.getElem?_cons_zero, Option.some.injEq] at ho
              subst ho
              have e0 := hF.f0 (hall ⟨0, Ground.data⟩ (by simp) rfl)
              subst e0
              have e3 := hF.f3 (hall ⟨3, Ground.data⟩ (by simp) rfl)
              subst e3
              have KK := Lib.hid (K7.out _ _ (D8.out.trans (hF.low.mono D8.out.size)) (BA.out.step hF.low).o.dsk)
              have hls := hF.low.size
              replace hF := Lib.hid hF
              clear hall
              go_simp
              go_at_call 7
              refine KK.out.mono ?_
              rintro e V ⟨v, rfl, om, bm⟩
              go_simp
              refine hK.out _ _ ?_
              exact ⟨_, _, _, _, _, _, _, _, _, _, rfl, hF.out.up4 ⟨_, _, rfl, (om.m.mono (by omega)), rfl⟩ bm⟩
            · simp only [List.getElem?_toArray, List.getElem?_cons_succ, List.getElem?_cons_zero, Option.some.injEq] at ho
              subst ho
              obtain ⟨xa, ya, ea, pa, qa⟩ := hF.f4 (hall ⟨4, Ground.data⟩ (by simp) rfl)
              subst ea
              replace pa := Lib.hid pa
              subst qa
              replace hF := Lib.hid hF
              clear hall
              go_simp
              refine hK.out _ _ ?_
              exact ⟨_, _, _, _, _, _, _, _, _, _, rfl, hF.out.up5 ⟨_, _, rfl, pa.out, rfl⟩⟩
            · simp only [List.getElem?_toArray, List.getElem?_cons_succ, List.getElem?_cons_zero, Option.some.injEq] at ho
              subst ho
              obtain ⟨xa, ya, ea, pa, qa⟩ := hF.f5 (hall ⟨5, Ground.data⟩ (by simp) rfl)
              subst ea
              replace pa := Lib.hid pa
              subst qa
              replace hF := Lib.hid hF
              clear hall
              go_simp
              refine hK.out _ _ ?_
              exact ⟨_, _, _, _, _, _, _, _, _, _, rfl, hF.out.up6 pa.out⟩
            · simp only [List.getElem?_toArray, List.getElem?_cons_succ, List.getElem?_cons_zero, Option.some.injEq] at ho
              subst ho
              obtain ⟨xa, ya, ea, pa, qa⟩ := hF.f5 (hall ⟨5, Ground.data⟩ (by simp) rfl)
              subst ea
              replace pa := Lib.hid pa
              subst qa
              replace hF := Lib.hid hF
              clear hall
              go_simp
              refine hK.out _ _ ?_
              exact ⟨_, _, _, _, _, _, _, _, _, _, rfl, hF.out.up7 rfl⟩
            · simp only [List.getElem?_toArray, List.getElem?_cons_succ, List.getElem?_cons_zero, Option.some.injEq] at ho
              subst ho
              replace hF := Lib.hid hF
              clear hall
              go_simp
              refine hK.out _ _ ?_
              exact ⟨_, _, _, _, _, _, _, _, _, _, rfl, hF.out.up8 hsz hun⟩
            · simp only [List.getElem?_toArray, List.getElem?_cons_succ, List.getElem?_cons_zero, Option.some.injEq] at ho
              subst ho
              have ho' := hF.f6 (hall ⟨6, Ground.data⟩ (by simp) rfl)
              obtain ⟨Y1, j1, Y2, j2, Y3, j3, Y5, j5, ey, -⟩ := ho'.dsk.ex
              subst ey
              have hA := (hall ⟨8, Ground.data⟩ (by simp) rfl)
              obtain ⟨q8, e3, hq', hh⟩ := hF.f8 hA
              subst e3
              have hz := hh hun
              obtain ⟨⟨r0, r1, r2, r3, r4⟩, ⟨g0, g1, g2, g3, g4⟩⟩ := blk5 hz
              replace hz := Lib.hid hz
              replace ho' := Lib.hid ho'
              replace hF := Lib.hid hF
              clear hall
              go_simp
              refine hK.out _ _ ?_
              exact ⟨_, _, _, _, _, _, _, _, _, _, rfl, hF.out.up9 hsz hA rfl hq' hz.out ho'.out⟩
            · simp only [List.getElem?_toArray, List.getElem?_cons_succ, List.getElem?_cons_zero, Option.some.injEq] at ho
              subst ho
              have ea := hF.f7 (hall ⟨7, Ground.data⟩ (by simp) rfl)
              subst ea
              replace hF := Lib.hid hF
              clear hall
              go_simp
              refine hK.out _ _ ?_
              exact ⟨_, _, _, _, _, _, _, _, _, _, rfl, hF.out.up10 rfl⟩
          · exact ⟨_, _, _, _, _, _, _, _, _, _, rfl, (fun h => by simp at h), (fun h => by simp at h), (fun h => by simp at h), (fun h => by simp at h), (fun h => by simp at h), (fun h => by simp at h), (fun h => by simp at h), (fun h => by simp at h), (fun h => by simp at h), (fun h => by simp at h), (fun h => by simp at h), (fun h => by simp at h), (Below.refl _ _).drew⟩
        · rintro l a w' ⟨s10, s11, s63, s64, s65, s66, s67, s68, s69, s70, rfl, hF⟩ hsz i o hlt ho hun hall
          have hlt' : i < 11 := hlt
          refine wpOp_step ho (fun K' hK => ?_)
          replace hK := Lib.hid hK
          obtain rfl | rfl | rfl | rfl | rfl | rfl | rfl | rfl | rfl | rfl | rfl : i = 0 ∨ i = 1 ∨ i = 2 ∨ i = 3 ∨ i = 4 ∨ i = 5 ∨ i = 6 ∨ i = 7 ∨ i = 8 ∨ i = 9 ∨ i = 10 := by omega
          · simp only [List.getElem?_toArray, List.getElem?_cons_zero, Option.some.injEq] at ho
            subst ho
            obtain ⟨x0, x1, x2, x3, x4⟩ := hXc.out _ hF.low
            replace hF := Lib.hid hF
            clear hall
            go_simp
            refine hK.out _ _ ?_
            exact ⟨_, _, _, _, _, _, _, _, _, _, rfl, hF.out.up0 rfl⟩
          · simp only [List.getElem?_toArray, List.getElem?_cons_succ, List.getElem?_cons_zero, Option.some.injEq] at ho
            subst ho
            replace hF := Lib.hid hF
            clear hall
            go_simp
            refine hK.out _ _ ?_
            exact ⟨_, _, _, _, _, _, _, _, _, _, rfl, hF.out.up1 rfl⟩
          · simp only [List.getElem?_toArray, List.getElem?_cons_succ, List.getElem?_cons_zero, Option.some.injEq] at ho
            subst ho
            replace hF := Lib.hid hF
            clear hall
            go_simp
            refine hK.out _ _ ?_
            exact ⟨_, _, _, _, _, _, _, _, _, _, rfl, hF.out.up2 rfl⟩
          · simp only [List.getElem?_toArray, List.getElem?_cons_succ, List.getElem?_cons_zero, Option.some.injEq] at ho
            subst ho
            have e1 := hF.f1 (hall ⟨1, Ground.data⟩ (by simp) rfl)
            subst e1
            have e2 := hF.f2 (hall ⟨2, Ground.data⟩ (by simp) rfl)
            subst e2
            have hs1' := hs1 w'
            have hs2' := hs2 w'
            replace hF := Lib.hid hF
            clear hall
            go_simp
            refine hK.out _ _ ?_
            exact ⟨_, _, _, _, _, _, _, _, _, _, rfl, hF.out.up3 rfl⟩
          · simp only [List.getElem?_toArray, List.getElem?_cons_succ, List.getElem?_cons_zero, Option.some.injEq] at ho
            subst ho
            have e0 := hF.f0 (hall ⟨0, Ground.data⟩ (by simp) rfl)
            subst e0
            have e3 := hF.f3 (hall ⟨3, Ground.data⟩ (by simp) rfl)
            subst e3
            have KK := Lib.hid (K6.out _ hF.low)
            have hls := hF.low.size
            replace hF := Lib.hid hF
            clear hall
            go_simp
            go_at_call 7
            refine KK.out.mono ?_
            rintro e V ⟨v, rfl, om, bm⟩
            go_simp
            refine hK.out _ _ ?_
            exact ⟨_, _, _, _, _, _, _, _, _, _, rfl, hF.out.up4 ⟨_, _, rfl, (om.m.mono (by omega)), rfl⟩ bm⟩
          · simp only [List.getElem?_toArray, List.getElem?_cons_succ, List.getElem?_cons_zero, Option.some.injEq] at ho
            subst ho
            obtain ⟨xa, ya, ea, pa, qa⟩ := hF.f4 (hall ⟨4, Ground.data⟩ (by simp) rfl)
            subst ea
            replace pa := Lib.hid pa
            subst qa
            replace hF := Lib.hid hF
            clear hall
            go_simp
            refine hK.out _ _ ?_
            exact ⟨_, _, _, _, _, _, _, _, _, _, rfl, hF.out.up5 ⟨_, _, rfl, pa.out, rfl⟩⟩
          · simp only [List.getElem?_toArray, List.getElem?_cons_succ, List.getElem?_cons_zero, Option.some.injEq] at ho
            subst ho
            obtain ⟨xa, ya, ea, pa, qa⟩ := hF.f5 (hall ⟨5, Ground.data⟩ (by simp) rfl)
            subst ea
            replace pa := Lib.hid pa
            subst qa
            replace hF := Lib.hid hF
            clear hall
            go_simp
            refine hK.out _ _ ?_
            exact ⟨_, _, _, _, _, _, _, _, _, _, rfl, hF.out.up6 pa.out⟩
          · simp only [List.getElem?_toArray, List.getElem?_cons_succ, List.getElem?_cons_zero, Option.some.injEq] at ho
            subst ho
            obtain ⟨xa, ya, ea, pa, qa⟩ := hF.f5 (hall ⟨5, Ground.data⟩ (by simp) rfl)
            subst ea
            replace pa := Lib.hid pa
            subst qa
            replace hF := Lib.hid hF
            clear hall
            go_simp
            refine hK.out _ _ ?_
            exact ⟨_, _, _, _, _, _, _, _, _, _, rfl, hF.out.up7 rfl⟩
          · simp only [List.getElem?_toArray, List.getElem?_cons_succ, List.getElem?_cons_zero, Option.some.injEq] at ho
            subst ho
            replace hF := Lib.hid hF
            clear hall
            go_simp
            refine hK.out _ _ ?_
            exact ⟨_, _, _, _, _, _, _, _, _, _, rfl, hF.out.up8 hsz hun⟩
          · simp only [List.getElem?_toArray, List.getElem?_cons_succ, List.getElem?_cons_zero, Option.some.injEq] at ho
            subst ho
            have ho' := hF.f6 (hall ⟨6, Ground.data⟩ (by simp) rfl)
            obtain ⟨Y1, j1, Y2, j2, Y3, j3, Y5, j5, ey, -⟩ := ho'.dsk.ex
            subst ey
            have hA := (hall ⟨8, Ground.data⟩ (by simp) rfl)
            obtain ⟨q8, e3, hq', hh⟩ := hF.f8 hA
            subst e3
            have hz := hh hun
            obtain ⟨⟨r0, r1, r2, r3, r4⟩, ⟨g0, g1, g2, g3, g4⟩⟩ := blk5 hz
            replace hz := Lib.hid hz
            replace ho' := Lib.hid ho'
            replace hF := Lib.hid hF
            clear hall
            go_simp
            refine hK.out _ _ ?_
            exact ⟨_, _, _, _, _, _, _, _, _, _, rfl, hF.out.up9 hsz hA rfl hq' hz.out ho'.out⟩
          · simp only [List.getElem?_toArray, List.getElem?_cons_succ, List.getElem?_cons_zero, Option.some.injEq] at ho
            subst ho
            have ea := hF.f7 (hall ⟨7, Ground.data⟩ (by simp) rfl)
            subst ea
            replace hF := Lib.hid hF
            clear hall
            go_simp
            refine hK.out _ _ ?_
            exact ⟨_, _, _, _, _, _, _, _, _, _, rfl, hF.out.up10 rfl⟩
        · exact ⟨_, _, _, _, _, _, _, _, _, _, rfl, (fun h => by simp at h), (fun h => by simp at h), (fun h => by simp at h), (fun h => by simp at h), (fun h => by simp at h), (fun h => by simp at h), (fun h => by simp at h), (fun h => by simp at h), (fun h => by simp at h), (fun h => by simp at h), (fun h => by simp at h), (fun h => by simp at h), (Below.refl _ _).drew⟩
      · have g1 : 40 < (N : Int) := by omega
        have g2 : decide (40 < (N : Int)) = true := decide_eq_true g1
        have hz : u = noDk ∧ m = 0 := by
          have := hno.out (by rw [hN.out]; omega)
          rw [← hu.out, ← hm.out, this]; exact ⟨rfl, rfl⟩
        replace hz := Lib.hid hz
        rw [hdk] at K5
        replace hdk := Lib.hid hdk
        go_wp2_with (fail)
        refine K5.out.mono ?_
        rintro e w7 ⟨rfl, b7⟩
        replace BU := Lib.hid (BU.out.step b7)
        replace HB := Lib.hid (HB.out.trans (b7.mono HB.out.size))
        clear b7 x0 x1 x2 x3 x4 K5 BD HQ
        have hm0 : ((m : Int) == 0) = true := by rw [hz.out.2]; rfl
        have hm1 : (m : Int) = 0 := by rw [hz.out.2]; rfl
        have OXN : Dsk w7 (.agg #[.slice X1 u.t.us.length k1, .slice X2 u.t.bs.length k2, .slice X3 u.t.ns.length k3, .int .i64 u.now, .slice X5 u.past.length k5]) noDk := by rw [← hz.out.1]; exact BU.out.o.dsk
        have K5 := Lib.hid (noDesk_no _ w7 OXN)
        clear OXN
        obtain ⟨x0, x1, x2, x3, x4⟩ := (blk5 BU.out.k).1
        go_wp2_with (go_at_call 11; refine K5.out.mono ?_; rintro e w8 ⟨rfl, b8⟩; refine Hid.out ?_)
        replace HB := Lib.hid (HB.out.trans (b8.mono HB.out.size))
        clear b8 x0 x1 x2 x3 x4
        refine Lib.hid ?_
        go_wp2_with (fail)
        refine (alive_any _).mono ?_
        rintro e w9 ⟨rfl, b9⟩
        replace HB := Lib.hid (HB.out.trans (b9.mono HB.out.size))
        clear b9
        go_wp2
        go_ret
        exact ⟨rfl, HB.out⟩
  · have t1 : (1048576 : Int) < (n : Int) := by omega
    go_enter Try.func3, Try.ntmps3
    go_wp2
    go_ret
    exact ⟨rfl, Below.refl _ _⟩

set_option maxRecDepth 100000 in
theorem lifted (os : Os) (started : os.Started) (H : Type) (enc : TypeId × Value → H) :
    ReturnsInHanded {} Try.checked os 3 .any (Rows.fnDeskRunSpec.pre6 enc Try.prog Try.f3 Rows.fnDeskRunRow.domain false) (Rows.fnDeskRunSpec.post enc Try.prog Try.f3 false true false false) := by
  refine returnsInHanded_of_change (C := Try.checked) own started (by kernel_rfl) Try.func3
    (ChangeSpec.witness6 (enc := enc) (C := Try.checked) false ⟨#[], #[.slice none 0 0], []⟩ 8 (by kernel_rfl) (by kernel_rfl) (by kernel_rfl) (by kernel_rfl)) ?_
  intro W base args ds gs before hval0 hW hcnd _
  have hval : ∀ (j : Nat) t v, Try.f3.params[j]? = some t → args[j]? = some v → Value.okWide Try.prog W .any base t v := hval0
  have hW' := hW
  obtain ⟨p, q, hA0, hV, rfl, hfz, hnd⟩ := hW
  have hA : DataW.TrodAll enc Try.prog W 0 (fun _ => true) true Try.f3.params.toList args.toList ds p := hA0
  rw [Try.params3] at hA hval
  obtain ⟨v0, vs0, d0, ds0, p0, q0, hargs, rfl, rfl, h0, r0⟩ := trodAll_cons hA
  obtain ⟨rfl, rfl, rfl⟩ := trodAll_nil r0
  obtain rfl : args = #[v0] := by cases args; simp_all
  obtain ⟨rfl, rfl⟩ := trodVars_none hV
  obtain ⟨a0, len0, cap0, rfl⟩ := okWide_slice Try.underlying22 (hval 0 22 v0 rfl rfl)
  have k0 := h0
  have lt0 : ∀ x ∈ p0, x.block < W.heap.size := by obtain ⟨m, hm⟩ := k0; exact DataW.trod_lt m _ _ _ hm
  obtain ⟨z0, s0, w0, m0⟩ : ∃ zs, Ints W .u8 a0 len0 cap0 zs ∧ (∀ n ∈ zs, (Lit.int .u8 n).wf = true) ∧ cap0 ≤ maxLen := by
    obtain ⟨fuel, hf⟩ := h0
    rcases open_ints Try.underlying22 Try.underlying5 (by kernel_rfl) hf with ⟨hcs, _⟩ | ⟨x, l, c, zs, hcs, _, hl, hm, hz, _, hcell, hwz⟩
    · simp [Value.cells] at hcs
      obtain ⟨rfl, rfl, rfl⟩ := hcs
      exact ⟨[], Ints.none_, by simp, Nat.zero_le _⟩
    · simp [Value.cells] at hcs
      obtain ⟨rfl, rfl, rfl⟩ := hcs
      exact ⟨_, Ints.of_row hl (by simpa using hz) hcell, fun n hn => hwz n (List.mem_of_mem_take hn), hm⟩
  clear hA0 hval0
  refine (walk W a0 len0 cap0 z0 s0 w0 m0).mono fun e W' ⟨he, bel⟩ => ?_
  subst he
  exact ⟨_, rfl, _, _, _, [], _, [], hW', trodAll_mk1 (shut_bool Try.underlying4 _), (trodAll_cons_mk (Below.trod laidOut (by kernel_rfl) (of_decide_eq_true (by kernel_rfl)) k0 bel lt0) trodAll_mk0), rfl, bel.frame _, fun h => by cases h⟩

theorem over : Rows.fnDeskRunRow.holds Try.pinned (OpenSpec.ofChange Rows.fnDeskRunSpec) :=
  OpenClaim.holds_of_wide 3 Try.f3 rfl rfl rfl rfl rfl rfl rfl ⟨rfl, rfl, rfl, rfl, rfl⟩ rfl rfl rfl rfl rfl (by kernel_rfl) Try.func3 (by kernel_rfl)
    (of_decide_eq_true (by kernel_rfl)) (by unfold Func.isWrapper; first | (rw [if_pos (by decide +kernel)]; kernel_rfl) | (rw [if_neg (by decide +kernel)]; exact ⟨rfl, rfl⟩))
    (fun os started H enc _ => lifted os started H enc)
theorem proved : Rows.FnDeskRunSaid := over
end Go.Proofs.Ytjnlpknjdclalaa.fnDeskRun
