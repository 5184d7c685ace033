/-
  The contract of DeskRun of the model.
-/
import Derived.Test.YtjnlpknjdclalaaDbm
import Derived.Test.YtjnlpknjdclalaaInv
import Derived.Test.YtjnlpknjdclalaaJd
namespace Go.Proofs.Ytjnlpknjdclalaa
open Go.RowKit

/-- What is known of the operations that have come up. -/
structure DRC (V : World) (B : Nat) (DV SV KV PV EV : Value) (du : Dk) (rb : Bool) (l : Array Bool) (w : World) (s9 s10 s28 s29 s30 s31 s32 s33 s34 s35 s36 : Value) : Prop where
  f0 : l.getD 0 false = true → s29 = DV
  f1 : l.getD 1 false = true → s30 = SV
  f2 : l.getD 2 false = true → s31 = KV
  f3 : l.getD 3 false = true → s32 = PV
  f4 : l.getD 4 false = true → s33 = EV
  f5 : l.getD 5 false = true → ∃ x y, s34 = .tuple #[x, y] ∧ MDk w B x du ∧ y = .bool rb
  f6 : l.getD 6 false = true → ∃ x y, s28 = .tuple #[x, y] ∧ MDk w B x du ∧ y = .bool rb
  f7 : l.getD 7 false = true → MDk w B s35 du
  f8 : l.getD 8 false = true → s36 = .bool rb
  f9 : l.getD 9 false = true → ∃ q, s9 = .pointer (some ⟨q, 0, none⟩) ∧ V.heap.size ≤ q ∧ (l.getD 10 false = false → Blk w q 28 #[.slice none 0 0, .slice none 0 0, .slice none 0 0, .int .i64 0, .slice none 0 0])
  f10 : l.getD 10 false = true → ∃ (q : Nat) (u0 u1 u2 u3 u4 : Value), s9 = .pointer (some ⟨q, 0, none⟩) ∧ V.heap.size ≤ q ∧ Blk w q 28 #[u0, u1, u2, u3, u4] ∧ MDk w B (.agg #[u0, u1, u2, u3, u4]) du
  f11 : l.getD 11 false = true → s10 = .bool rb
  da : l.getD 10 false = true → l.getD 9 false = true
  low : Below V.heap.size V w
section
variable {V : World} {B : Nat} {DV SV KV PV EV : Value} {du : Dk} {rb : Bool} {l : Array Bool} {w w' : World} {s9 s10 s28 s29 s30 s31 s32 s33 s34 s35 s36 v : Value}
theorem DRC.up0 (h : DRC V B DV SV KV PV EV du rb l w s9 s10 s28 s29 s30 s31 s32 s33 s34 s35 s36) (hv : v = DV) : DRC V B DV SV KV PV EV du rb (l.setIfInBounds 0 true) w s9 s10 s28 v s30 s31 s32 s33 s34 s35 s36 := by
  exact ⟨(fun _ => hv), (fun h' => h.f1 (listed_set h' (by decide))), (fun h' => h.f2 (listed_set h' (by decide))), (fun h' => h.f3 (listed_set h' (by decide))), (fun h' => h.f4 (listed_set h' (by decide))), (fun h' => h.f5 (listed_set h' (by decide))), (fun h' => h.f6 (listed_set h' (by decide))), (fun h' => h.f7 (listed_set h' (by decide))), (fun h' => h.f8 (listed_set h' (by decide))), (fun h' => (let ⟨q, e, hq, hh⟩ := h.f9 (listed_set h' (by decide)); ⟨q, e, hq, fun hn => hh (by rwa [listed_same (by decide)] at hn)⟩)), (fun h' => h.f10 (listed_set h' (by decide))), (fun h' => h.f11 (listed_set h' (by decide))), (fun h' => by rw [listed_same (by decide)] at h' ⊢; exact h.da h'), h.low⟩
theorem DRC.up1 (h : DRC V B DV SV KV PV EV du rb l w s9 s10 s28 s29 s30 s31 s32 s33 s34 s35 s36) (hv : v = SV) : DRC V B DV SV KV PV EV du rb (l.setIfInBounds 1 true) w s9 s10 s28 s29 v s31 s32 s33 s34 s35 s36 := by
  exact ⟨(fun h' => h.f0 (listed_set h' (by decide))), (fun _ => hv), (fun h' => h.f2 (listed_set h' (by decide))), (fun h' => h.f3 (listed_set h' (by decide))), (fun h' => h.f4 (listed_set h' (by decide))), (fun h' => h.f5 (listed_set h' (by decide))), (fun h' => h.f6 (listed_set h' (by decide))), (fun h' => h.f7 (listed_set h' (by decide))), (fun h' => h.f8 (listed_set h' (by decide))), (fun h' => (let ⟨q, e, hq, hh⟩ := h.f9 (listed_set h' (by decide)); ⟨q, e, hq, fun hn => hh (by rwa [listed_same (by decide)] at hn)⟩)), (fun h' => h.f10 (listed_set h' (by decide))), (fun h' => h.f11 (listed_set h' (by decide))), (fun h' => by rw [listed_same (by decide)] at h' ⊢; exact h.da h'), h.low⟩
theorem DRC.up2 (h : DRC V B DV SV KV PV EV du rb l w s9 s10 s28 s29 s30 s31 s32 s33 s34 s35 s36) (hv : v = KV) : DRC V B DV SV KV PV EV du rb (l.setIfInBounds 2 true) w s9 s10 s28 s29 s30 v s32 s33 s34 s35 s36 := by
  exact ⟨(fun h' => h.f0 (listed_set h' (by decide))), (fun h' => h.f1 (listed_set h' (by decide))), (fun _ => hv), (fun h' => h.f3 (listed_set h' (by decide))), (fun h' => h.f4 (listed_set h' (by decide))), (fun h' => h.f5 (listed_set h' (by decide))), (fun h' => h.f6 (listed_set h' (by decide))), (fun h' => h.f7 (listed_set h' (by decide))), (fun h' => h.f8 (listed_set h' (by decide))), (fun h' => (let ⟨q, e, hq, hh⟩ := h.f9 (listed_set h' (by decide)); ⟨q, e, hq, fun hn => hh (by rwa [listed_same (by decide)] at hn)⟩)), (fun h' => h.f10 (listed_set h' (by decide))), (fun h' => h.f11 (listed_set h' (by decide))), (fun h' => by rw [listed_same (by decide)] at h' ⊢; exact h.da h'), h.low⟩
theorem DRC.up3 (h : DRC V B DV SV KV PV EV du rb l w s9 s10 s28 s29 s30 s31 s32 s33 s34 s35 s36) (hv : v = PV) : DRC V B DV SV KV PV EV du rb (l.setIfInBounds 3 true) w s9 s10 s28 s29 s30 s31 v s33 s34 s35 s36 := by
  exact ⟨(fun h' => h.f0 (listed_set h' (by decide))), (fun h' => h.f1 (listed_set h' (by decide))), (fun h' => h.f2 (listed_set h' (by decide))), (fun _ => hv), (fun h' => h.f4 (listed_set h' (by decide))), (fun h' => h.f5 (listed_set h' (by decide))), (fun h' => h.f6 (listed_set h' (by decide))), (fun h' => h.f7 (listed_set h' (by decide))), (fun h' => h.f8 (listed_set h' (by decide))), (fun h' => (let ⟨q, e, hq, hh⟩ := h.f9 (listed_set h' (by decide)); ⟨q, e, hq, fun hn => hh (by rwa [listed_same (by decide)] at hn)⟩)), (fun h' => h.f10 (listed_set h' (by decide))), (fun h' => h.f11 (listed_set h' (by decide))), (fun h' => by rw [listed_same (by decide)] at h' ⊢; exact h.da h'), h.low⟩
theorem DRC.up4 (h : DRC V B DV SV KV PV EV du rb l w s9 s10 s28 s29 s30 s31 s32 s33 s34 s35 s36) (hv : v = EV) : DRC V B DV SV KV PV EV du rb (l.setIfInBounds 4 true) w s9 s10 s28 s29 s30 s31 s32 v s34 s35 s36 := by
  exact ⟨(fun h' => h.f0 (listed_set h' (by decide))), (fun h' => h.f1 (listed_set h' (by decide))), (fun h' => h.f2 (listed_set h' (by decide))), (fun h' => h.f3 (listed_set h' (by decide))), (fun _ => hv), (fun h' => h.f5 (listed_set h' (by decide))), (fun h' => h.f6 (listed_set h' (by decide))), (fun h' => h.f7 (listed_set h' (by decide))), (fun h' => h.f8 (listed_set h' (by decide))), (fun h' => (let ⟨q, e, hq, hh⟩ := h.f9 (listed_set h' (by decide)); ⟨q, e, hq, fun hn => hh (by rwa [listed_same (by decide)] at hn)⟩)), (fun h' => h.f10 (listed_set h' (by decide))), (fun h' => h.f11 (listed_set h' (by decide))), (fun h' => by rw [listed_same (by decide)] at h' ⊢; exact h.da h'), h.low⟩
theorem DRC.up5 (h : DRC V B DV SV KV PV EV du rb l w s9 s10 s28 s29 s30 s31 s32 s33 s34 s35 s36) (hv : ∃ x y, v = .tuple #[x, y] ∧ MDk w' B x du ∧ y = .bool rb) (hb : Below w.heap.size w w') : DRC V B DV SV KV PV EV du rb (l.setIfInBounds 5 true) w' s9 s10 s28 s29 s30 s31 s32 s33 v s35 s36 := by
  exact ⟨(fun h' => h.f0 (listed_set h' (by decide))), (fun h' => h.f1 (listed_set h' (by decide))), (fun h' => h.f2 (listed_set h' (by decide))), (fun h' => h.f3 (listed_set h' (by decide))), (fun h' => h.f4 (listed_set h' (by decide))), (fun _ => hv), (fun h' => (let ⟨x, y, e, hp, hq⟩ := h.f6 (listed_set h' (by decide)); ⟨x, y, e, MDk.below (hp) hb (Nat.le_refl _), hq⟩)), (fun h' => MDk.below (h.f7 (listed_set h' (by decide))) hb (Nat.le_refl _)), (fun h' => h.f8 (listed_set h' (by decide))), (fun h' => (let ⟨q, e, hq, hh⟩ := h.f9 (listed_set h' (by decide)); ⟨q, e, hq, fun hn => let b := hh (by rwa [listed_same (by decide)] at hn); b.below hb b.lt⟩)), (fun h' => (let ⟨q, u0, u1, u2, u3, u4, e, hq, b, ho⟩ := h.f10 (listed_set h' (by decide)); ⟨q, u0, u1, u2, u3, u4, e, hq, b.below hb b.lt, MDk.below (ho) hb (Nat.le_refl _)⟩)), (fun h' => h.f11 (listed_set h' (by decide))), (fun h' => by rw [listed_same (by decide)] at h' ⊢; exact h.da h'), h.low.trans (hb.mono h.low.size)⟩
theorem DRC.up6 (h : DRC V B DV SV KV PV EV du rb l w s9 s10 s28 s29 s30 s31 s32 s33 s34 s35 s36) (hv : ∃ x y, v = .tuple #[x, y] ∧ MDk w B x du ∧ y = .bool rb) : DRC V B DV SV KV PV EV du rb (l.setIfInBounds 6 true) w s9 s10 v s29 s30 s31 s32 s33 s34 s35 s36 := by
  exact ⟨(fun h' => h.f0 (listed_set h' (by decide))), (fun h' => h.f1 (listed_set h' (by decide))), (fun h' => h.f2 (listed_set h' (by decide))), (fun h' => h.f3 (listed_set h' (by decide))), (fun h' => h.f4 (listed_set h' (by decide))), (fun h' => h.f5 (listed_set h' (by decide))), (fun _ => hv), (fun h' => h.f7 (listed_set h' (by decide))), (fun h' => h.f8 (listed_set h' (by decide))), (fun h' => (let ⟨q, e, hq, hh⟩ := h.f9 (listed_set h' (by decide)); ⟨q, e, hq, fun hn => hh (by rwa [listed_same (by decide)] at hn)⟩)), (fun h' => h.f10 (listed_set h' (by decide))), (fun h' => h.f11 (listed_set h' (by decide))), (fun h' => by rw [listed_same (by decide)] at h' ⊢; exact h.da h'), h.low⟩
theorem DRC.up7 (h : DRC V B DV SV KV PV EV du rb l w s9 s10 s28 s29 s30 s31 s32 s33 s34 s35 s36) (hv : MDk w B v du) : DRC V B DV SV KV PV EV du rb (l.setIfInBounds 7 true) w s9 s10 s28 s29 s30 s31 s32 s33 s34 v s36 := by
  exact ⟨(fun h' => h.f0 (listed_set h' (by decide))), (fun h' => h.f1 (listed_set h' (by decide))), (fun h' => h.f2 (listed_set h' (by decide))), (fun h' => h.f3 (listed_set h' (by decide))), (fun h' => h.f4 (listed_set h' (by decide))), (fun h' => h.f5 (listed_set h' (by decide))), (fun h' => h.f6 (listed_set h' (by decide))), (fun _ => hv), (fun h' => h.f8 (listed_set h' (by decide))), (fun h' => (let ⟨q, e, hq, hh⟩ := h.f9 (listed_set h' (by decide)); ⟨q, e, hq, fun hn => hh (by rwa [listed_same (by decide)] at hn)⟩)), (fun h' => h.f10 (listed_set h' (by decide))), (fun h' => h.f11 (listed_set h' (by decide))), (fun h' => by rw [listed_same (by decide)] at h' ⊢; exact h.da h'), h.low⟩
theorem DRC.up8 (h : DRC V B DV SV KV PV EV du rb l w s9 s10 s28 s29 s30 s31 s32 s33 s34 s35 s36) (hv : v = .bool rb) : DRC V B DV SV KV PV EV du rb (l.setIfInBounds 8 true) w s9 s10 s28 s29 s30 s31 s32 s33 s34 s35 v := by
  exact ⟨(fun h' => h.f0 (listed_set h' (by decide))), (fun h' => h.f1 (listed_set h' (by decide))), (fun h' => h.f2 (listed_set h' (by decide))), (fun h' => h.f3 (listed_set h' (by decide))), (fun h' => h.f4 (listed_set h' (by decide))), (fun h' => h.f5 (listed_set h' (by decide))), (fun h' => h.f6 (listed_set h' (by decide))), (fun h' => h.f7 (listed_set h' (by decide))), (fun _ => hv), (fun h' => (let ⟨q, e, hq, hh⟩ := h.f9 (listed_set h' (by decide)); ⟨q, e, hq, fun hn => hh (by rwa [listed_same (by decide)] at hn)⟩)), (fun h' => h.f10 (listed_set h' (by decide))), (fun h' => h.f11 (listed_set h' (by decide))), (fun h' => by rw [listed_same (by decide)] at h' ⊢; exact h.da h'), h.low⟩
theorem DRC.up9 (h : DRC V B DV SV KV PV EV du rb l w s9 s10 s28 s29 s30 s31 s32 s33 s34 s35 s36) (hsz : l.size = 12) (hun : l.getD 9 false = false) : DRC V B DV SV KV PV EV du rb (l.setIfInBounds 9 true) (w.alloc (.cells #[.slice none 0 0, .slice none 0 0, .slice none 0 0, .int .i64 0, .slice none 0 0] 28)) (.pointer (some ⟨w.heap.size, 0, none⟩)) s10 s28 s29 s30 s31 s32 s33 s34 s35 s36 := by
  have hb := (Below.refl w.heap.size w).alloc (Nat.le_refl _) (.cells #[.slice none 0 0, .slice none 0 0, .slice none 0 0, .int .i64 0, .slice none 0 0] 28)
  exact ⟨(fun h' => h.f0 (listed_set h' (by decide))), (fun h' => h.f1 (listed_set h' (by decide))), (fun h' => h.f2 (listed_set h' (by decide))), (fun h' => h.f3 (listed_set h' (by decide))), (fun h' => h.f4 (listed_set h' (by decide))), (fun h' => (let ⟨x, y, e, hp, hq⟩ := h.f5 (listed_set h' (by decide)); ⟨x, y, e, MDk.below (hp) hb (Nat.le_refl _), hq⟩)), (fun h' => (let ⟨x, y, e, hp, hq⟩ := h.f6 (listed_set h' (by decide)); ⟨x, y, e, MDk.below (hp) hb (Nat.le_refl _), hq⟩)), (fun h' => MDk.below (h.f7 (listed_set h' (by decide))) hb (Nat.le_refl _)), (fun h' => h.f8 (listed_set h' (by decide))), (fun _ => ⟨w.heap.size, rfl, h.low.size, fun _ => Blk.new _ _ _⟩), (fun h' => absurd (h.da (listed_set h' (by decide))) (by rw [hun]; simp)), (fun h' => h.f11 (listed_set h' (by decide))), (fun _ => listed_at (by omega)), h.low.trans (hb.mono h.low.size)⟩
theorem DRC.up10 (h : DRC V B DV SV KV PV EV du rb l w s9 s10 s28 s29 s30 s31 s32 s33 s34 s35 s36) (hsz : l.size = 12) {q : Nat} {u0 u1 u2 u3 u4 : Value} (hA : l.getD 9 false = true) (e8 : s9 = .pointer (some ⟨q, 0, none⟩)) (hq : V.heap.size ≤ q) (hz : Blk w q 28 #[.slice none 0 0, .slice none 0 0, .slice none 0 0, .int .i64 0, .slice none 0 0]) (ho : MDk w B (.agg #[u0, u1, u2, u3, u4]) du) : DRC V B DV SV KV PV EV du rb (l.setIfInBounds 10 true) (((((w.setCell ⟨q, 0, none⟩ u0).setCell ⟨q, 1, none⟩ u1).setCell ⟨q, 2, none⟩ u2).setCell ⟨q, 3, none⟩ u3).setCell ⟨q, 4, none⟩ u4) s9 s10 s28 s29 s30 s31 s32 s33 s34 s35 s36 := by
  exact ⟨(fun h' => h.f0 (listed_set h' (by decide))), (fun h' => h.f1 (listed_set h' (by decide))), (fun h' => h.f2 (listed_set h' (by decide))), (fun h' => h.f3 (listed_set h' (by decide))), (fun h' => h.f4 (listed_set h' (by decide))), (fun h' => (let ⟨x, y, e, hp, hq⟩ := h.f5 (listed_set h' (by decide)); ⟨x, y, e, own_md5 (hp) hz, hq⟩)), (fun h' => (let ⟨x, y, e, hp, hq⟩ := h.f6 (listed_set h' (by decide)); ⟨x, y, e, own_md5 (hp) hz, hq⟩)), (fun h' => own_md5 (h.f7 (listed_set h' (by decide))) hz), (fun h' => h.f8 (listed_set h' (by decide))), (fun h' => (let ⟨q, e, hq, hh⟩ := h.f9 (listed_set h' (by decide)); ⟨q, e, hq, fun hn => by rw [listed_at (by omega)] at hn; cases hn⟩)), (fun _ => ⟨q, u0, u1, u2, u3, u4, e8, hq, hz.set5 u0 u1 u2 u3 u4, own_md5 (ho) hz⟩), (fun h' => h.f11 (listed_set h' (by decide))), (fun _ => by rw [listed_same (by decide)]; exact hA), below_dk5 h.low hq⟩
theorem DRC.up11 (h : DRC V B DV SV KV PV EV du rb l w s9 s10 s28 s29 s30 s31 s32 s33 s34 s35 s36) (hv : v = .bool rb) : DRC V B DV SV KV PV EV du rb (l.setIfInBounds 11 true) w s9 v s28 s29 s30 s31 s32 s33 s34 s35 s36 := by
  exact ⟨(fun h' => h.f0 (listed_set h' (by decide))), (fun h' => h.f1 (listed_set h' (by decide))), (fun h' => h.f2 (listed_set h' (by decide))), (fun h' => h.f3 (listed_set h' (by decide))), (fun h' => h.f4 (listed_set h' (by decide))), (fun h' => h.f5 (listed_set h' (by decide))), (fun h' => h.f6 (listed_set h' (by decide))), (fun h' => h.f7 (listed_set h' (by decide))), (fun h' => h.f8 (listed_set h' (by decide))), (fun h' => (let ⟨q, e, hq, hh⟩ := h.f9 (listed_set h' (by decide)); ⟨q, e, hq, fun hn => hh (by rwa [listed_same (by decide)] at hn)⟩)), (fun h' => h.f10 (listed_set h' (by decide))), (fun _ => hv), (fun h' => by rw [listed_same (by decide)] at h' ⊢; exact h.da h'), h.low⟩
end
/-- A desk and a number: what the model returns. -/
def RetMN (w : World) (d : Dk) (n : Int) (e : Ending) (w' : World) : Prop := ∃ v, e = .returned (.tuple #[v, .int .i64 n]) ∧ MDk w' w.heap.size v d ∧ Below w.heap.size w w'

set_option maxRecDepth 100000 in
set_option maxHeartbeats 8000000 in
theorem specDeskRun_any (v : Value) (d : Dk) (A : Option Addr) (n c : Nat) (q : List Dd) (w : World) (h : Dsk w v d) (hf : d.Fine) (hq : DeedsAre w A n c q) (hn : n ≤ 1048576) :
    Calls Try.prog 8 #[v, .slice A n c] w (RetMN w (dkRun d q).1 ((dkRun d q).2 : Int)) := by
  obtain ⟨A1, c1, A2, c2, A3, c3, A5, c5, rfl, -⟩ := h.ex
  have hB := ((Below.refl w.heap.size w).alloc (Nat.le_refl _) (.cells #[.slice A1 d.t.us.length c1, .slice A2 d.t.bs.length c2, .slice A3 d.t.ns.length c3, .int .i64 d.now, .slice A5 d.past.length c5] 28)).alloc (by simp) (.cells #[.slice none 0 0, .slice none 0 0, .slice none 0 0, .int .i64 0, .slice none 0 0] 28)
  have HX := (Blk.new w 28 #[.slice A1 d.t.us.length c1, .slice A2 d.t.bs.length c2, .slice A3 d.t.ns.length c3, .int .i64 d.now, .slice A5 d.past.length c5]).alloc (.cells #[.slice none 0 0, .slice none 0 0, .slice none 0 0, .int .i64 0, .slice none 0 0] 28)
  have HZ : Blk ((w.alloc (.cells #[.slice A1 d.t.us.length c1, .slice A2 d.t.bs.length c2, .slice A3 d.t.ns.length c3, .int .i64 d.now, .slice A5 d.past.length c5] 28)).alloc (.cells #[.slice none 0 0, .slice none 0 0, .slice none 0 0, .int .i64 0, .slice none 0 0] 28)) (w.heap.size + 1) 28 #[.slice none 0 0, .slice none 0 0, .slice none 0 0, .int .i64 0, .slice none 0 0] := blk_new_at _ (by simp)
  have HD := h.below hB (Nat.le_refl _)
  have HQ := Lib.hid hq
  have hql := Lib.hid hq.len
  have K1 := Lib.hid (specDeskOk_any _ d _ HD hf)
  have hno := Lib.hid (run_no (d := d) (l := q))
  have hyes := Lib.hid (run_yes (d := d) (l := q))
  have hrok := Lib.hid (fun (hk : dkOk d = true) l => run_ok hk l)
  have hsn := Lib.hid (fun k a => run_snoc (d := d) (l := q) (k := k) (a := a))
  have hff := Lib.hid hf
  generalize hnb : dkOk d = nb at *
  replace hnb := Lib.hid hnb
  replace hB := Lib.hid hB
  replace HX := Lib.hid HX
  replace HZ := Lib.hid HZ
  replace HD := Lib.hid HD
  clear h hf hq
  go_enter Try.func8, Try.ntmps8
  go_upto_region 1 with (fail)
  generalize (w.alloc (.cells #[.slice A1 d.t.us.length c1, .slice A2 d.t.bs.length c2, .slice A3 d.t.ns.length c3, .int .i64 d.now, .slice A5 d.past.length c5] 28)).alloc (.cells #[.slice none 0 0, .slice none 0 0, .slice none 0 0, .int .i64 0, .slice none 0 0] 28) = W at *
  obtain ⟨⟨x0, x1, x2, x3, x4⟩, -⟩ := blk5 HX.out
  go_wp2_with (fail)
  refine K1.out.mono ?_
  rintro e w1 ⟨rfl, b1⟩
  have hB1 := Lib.hid (hB.out.trans (b1.mono hB.out.size))
  have HX1 := Lib.hid (HX.out.below b1 HX.out.lt)
  have HZ1 := Lib.hid (HZ.out.below b1 HZ.out.lt)
  have HD1 := Lib.hid (HD.out.below b1 (Nat.le_refl _))
  clear x0 x1 x2 x3 x4 K1 b1 HX HZ HD hB
  have hend : ∀ (hg : dkRun d q = (noDk, 0)) u0 u1 u2 u3 u4, RetMN w (dkRun d q).1 ((dkRun d q).2 : Int) (.returned (.tuple #[.agg #[.slice none 0 0, .slice none 0 0, .slice none 0 0, .int .i64 0, .slice none 0 0], .int .i64 0])) (((((w1.setCell ⟨w.heap.size + 1, 0, none⟩ u0).setCell ⟨w.heap.size + 1, 1, none⟩ u1).setCell ⟨w.heap.size + 1, 2, none⟩ u2).setCell ⟨w.heap.size + 1, 3, none⟩ u3).setCell ⟨w.heap.size + 1, 4, none⟩ u4) := fun hg u0 u1 u2 u3 u4 => by
    rw [hg]
    exact ⟨_, rfl, own_md5 (own_mdNo w1 _) HZ1.out, below_dk5 hB1.out (by omega)⟩
  replace hend := Lib.hid hend
  cases nb
  · have hg := Lib.hid (hend.out (hno.out (by simp)))
    obtain ⟨⟨z0, z1, z2, z3, z4⟩, ⟨e0, e1, e2, e3, e4⟩⟩ := blk5 HZ1.out
    clear HX1 HZ1 HD1 HQ hno hyes hend hsn hrok
    go_wp2
    refine bodyPost_ret (v := .tuple #[.agg #[.slice none 0 0, .slice none 0 0, .slice none 0 0, .int .i64 0, .slice none 0 0], .int .i64 0]) (by simp [results, Try.results8, go_sem, z0, z1, z2, z3, z4]) rfl ?_
    exact hg.out _ _ _ _ _
  · by_cases hl : n ≤ 40
    · have hl1 : ¬ (40 < (n : Int)) := by omega
      have hl2 : decide (40 < (n : Int)) = false := decide_eq_false hl1
      have hg := Lib.hid (hyes.out ⟨rfl, by have := hql.out; omega⟩)
      have K2 := Lib.hid (specCopy_any _ d w1 HD1.out hff.out)
      obtain ⟨⟨x0, x1, x2, x3, x4⟩, ⟨f0, f1, f2, f3, f4⟩⟩ := blk5 HX1.out
      clear HD1 hno hyes hend
      go_wp2_with (go_at_call 31; refine K2.out.mono ?_; rintro e w2 ⟨v2, rfl, o2, b2⟩; obtain ⟨X1, k1, X2, k2, X3, k3, X5, k5, rfl⟩ := o2.shape; refine Hid.out ?_)
      have hAl := (Below.refl w2.heap.size w2).alloc (Nat.le_refl _) (.cells #[.slice X1 d.t.us.length k1, .slice X2 d.t.bs.length k2, .slice X3 d.t.ns.length k3, .int .i64 d.now, .slice X5 d.past.length k5] 28)
      have b2' := b2.trans (hAl.mono b2.size)
      have hs1 := hB1.out.size
      have hs2 := b2.size
      have hzl := HZ1.out.lt
      have S := Lib.hid (DBM.mk (w := w) (b := w2.heap.size) (z := w.heap.size + 1) (Blk.new w2 28 #[.slice X1 d.t.us.length k1, .slice X2 d.t.bs.length k2, .slice X3 d.t.ns.length k3, .int .i64 d.now, .slice X5 d.past.length k5]) ((o2.m.mono (B' := w.heap.size) hs1).below hAl (Nat.le_refl _)) (HZ1.out.below b2' HZ1.out.lt) (hB1.out.trans (b2'.mono hs1)) (by omega) (by omega) (by omega))
      clear x0 x1 x2 x3 x4 f0 f1 f2 f3 f4
      clear o2 K2 HX1 HZ1 hB1 b2 b2' hAl
      refine Lib.hid ?_
      go_upto_region 4 with (fail)
      generalize w2.alloc (.cells #[.slice X1 d.t.us.length k1, .slice X2 d.t.bs.length k2, .slice X3 d.t.ns.length k3, .int .i64 d.now, .slice X5 d.past.length k5] 28) = V at *
      generalize w2.heap.size = bx at *
      have hz0 : runTo d (q.take 0) = (d, 0) := rfl
      replace hz0 := Lib.hid hz0
      go_wp2
      go_loopw [7, 8] (fun s6 s24 wr => ∃ (k : Nat) (dk : Dk) (m : Nat) (X1 : Option Addr) (k1 : Nat) (X2 : Option Addr) (k2 : Nat) (X3 : Option Addr) (k3 : Nat) (X5 : Option Addr) (k5 : Nat), k ≤ n ∧ s24 = .int .i64 (k : Int) ∧ s6 = .int .i64 (m : Int) ∧ runTo d (q.take k) = (dk, m) ∧ m ≤ k ∧ DBM w wr bx (w.heap.size + 1) #[.slice X1 dk.t.us.length k1, .slice X2 dk.t.bs.length k2, .slice X3 dk.t.ns.length k3, .int .i64 dk.now, .slice X5 dk.past.length k5] dk) (fun _ s24 _ => n - (intOf s24).toNat)
      case atStart => exact ⟨0, d, 0, _, _, _, _, _, _, _, _, Nat.zero_le _, rfl, rfl, hz0.out, Nat.le_refl _, S.out⟩
      case round =>
        clear S hz0
        obtain ⟨k, dk, m, Z1, zz1, Z2, zz2, Z3, zz3, Z5, zz5, hk, rfl, rfl, hr, hm, S⟩ := hrel
        have hok := (hrok.out (by simp) (q.take k))
        rw [hr] at hok
        obtain ⟨hok1, hok2, -⟩ := hok
        have hfk := Lib.hid (fine_of_ok hok1 (by rw [hok2]; exact hff.out.t))
        replace hok1 := Lib.hid hok1
        replace hok2 := Lib.hid hok2
        by_cases hlt : k < n
        · have hx : q[k]? = some (q[k]'(by have := hql.out; omega)) := List.getElem?_eq_getElem (by have := hql.out; omega)
          have hnx := hsn.out k _ hx
          rw [hr] at hnx
          generalize q[k]'(by have := hql.out; omega) = x at *
          obtain ⟨b, o, rfl, hbl, hc⟩ := (HQ.out.below S.low (Nat.le_refl _)).at_ (by omega)
          obtain ⟨y1, y2⟩ := hc k x hx
          have hstep : stepD (dk, m) x = if (dkDo dk x).2 = true then ((dkDo dk x).1, m + 1) else (dk, m) := rfl
          rw [hstep] at hnx
          have K3 := Lib.hid (fun W (hb : Below wr.heap.size wr W) => specDeskDo_any _ dk x W (S.step hb).own.dsk hfk.out)
          have hXc := Lib.hid (fun W (hb : Below wr.heap.size wr W) => (blk5 (S.step hb).box).1)
          have hYc := Lib.hid (fun W (hb : Below wr.heap.size wr W) => (⟨(hb.cell (p := ⟨b, o + k * 2, none⟩) hbl).trans y1, (hb.cell (p := ⟨b, o + k * 2 + 1, none⟩) hbl).trans y2⟩ : W.cell? ⟨b, o + k * 2, none⟩ = some (.int .i64 x.kind) ∧ W.cell? ⟨b, o + k * 2 + 1, none⟩ = some (.int .i64 x.n)))
          have cs := dd_cells
          have hswr := S.low.size
          replace S := Lib.hid S
          replace hr := Lib.hid hr
          replace hnx := Lib.hid hnx
          obtain ⟨du, hdu⟩ : ∃ du, (dkDo dk x).1 = du := ⟨_, rfl⟩
          obtain ⟨rb, hrb⟩ : ∃ rb, (dkDo dk x).2 = rb := ⟨_, rfl⟩
          simp only [hdu, hrb] at hnx K3
          replace hdu := Lib.hid hdu
          replace hrb := Lib.hid hrb
          obtain ⟨xk, xn⟩ := x
          dsimp only at hYc K3
          clear hc hx hstep y1 y2
          have hm1 : IntKind.i64.wrap ((m : Int) + 1) = ((m + 1 : Nat) : Int) := by rw [IntWalk.i64_in _ (by omega)]; omega
          have hkk : IntKind.i64.wrap ((k : Int) + 1) = ((k + 1 : Nat) : Int) := by rw [IntWalk.i64_in _ (by omega)]; omega
          have hix1 : (k : Int) < (n : Int) := by omega
          have hix0 : (0 : Int) ≤ (k : Int) := by omega
          go_upto_region 8 with (fail)
          refine wp_region_any (by kernel_rfl) ?_
          refine wpAny_inv (Inv := fun l a w' => ∃ (s9 s10 s28 s29 s30 s31 s32 s33 s34 s35 s36 : Value), a = ⟨#[Value.agg #[Value.slice A1 d.t.us.length c1, Value.slice A2 d.t.bs.length c2, Value.slice A3 d.t.ns.length c3, Value.int IntKind.i64 d.now, Value.slice A5 d.past.length c5], Value.slice (some { block := b, off := o }) n c, Value.pointer (some { block := w.heap.size, off := 0 }), undef, Value.pointer (some { block := w.heap.size + 1, off := 0 }), Value.int IntKind.i64 0, Value.pointer (some { block := bx, off := 0 }), Value.int IntKind.i64 ↑m, Value.int IntKind.i64 ↑k, s9, s10, Value.agg #[Value.slice A1 d.t.us.length c1, Value.slice A2 d.t.bs.length c2, Value.slice A3 d.t.ns.length c3, Value.int IntKind.i64 d.now, Value.slice A5 d.past.length c5], Value.bool true, Value.bool false, Value.bool false, Value.slice (some { block := b, off := o }) n c, Value.int IntKind.i64 ↑n, Value.bool false, Value.bool false, undef, Value.agg #[Value.slice A1 d.t.us.length c1, Value.slice A2 d.t.bs.length c2, Value.slice A3 d.t.ns.length c3, Value.int IntKind.i64 d.now, Value.slice A5 d.past.length c5], Value.agg #[Value.slice X1 d.t.us.length k1, Value.slice X2 d.t.bs.length k2, Value.slice X3 d.t.ns.length k3, Value.int IntKind.i64 d.now, Value.slice X5 d.past.length k5], Value.int IntKind.i64 ↑k, Value.slice (some { block := b, off := o }) n c, Value.int IntKind.i64 ↑n, Value.bool true, u26, u27, s28, s29, s30, s31, s32, s33, s34, s35, s36, u37, u38, u39, u40, undef, undef], []⟩ ∧ DRC wr w.heap.size (.agg #[.slice Z1 dk.t.us.length zz1, .slice Z2 dk.t.bs.length zz2, .slice Z3 dk.t.ns.length zz3, .int .i64 dk.now, .slice Z5 dk.past.length zz5]) (.slice (some ⟨b, o, none⟩) n c) (.int .i64 (k : Int)) (.pointer (some ⟨b, o + k * 2, none⟩)) (.agg #[.int .i64 xk, .int .i64 xn]) du rb l w' s9 s10 s28 s29 s30 s31 s32 s33 s34 s35 s36) (ord_spec (by kernel_rfl)) ?_ ?_ _ _ _ _ rfl (by decide) ?_
          · rintro l a w' ⟨s9, s10, s28, s29, s30, s31, s32, s33, s34, s35, s36, rfl, hF⟩ hsz hl
            have hl' : ∀ j, j < 12 → l.getD j false = true := hl
            obtain ⟨q8, u0, u1, u2, u3, u4, e8, hq8, hbx, how⟩ := hF.f10 (hl' 10 (by decide))
            subst e8
            have e9 := hF.f11 (hl' 11 (by decide))
            subst e9
            have S2 := S.out.step hF.low
            obtain ⟨Y1, j1, Y2, j2, Y3, j3, Y5, j5, e1, -⟩ := how.dsk.ex
            injection e1 with e1
            have e1 : #[u0, u1, u2, u3, u4] = (_ : Array Value) := e1
            injection e1 with e1
            simp only [List.cons.injEq, and_true] at e1
            obtain ⟨rfl, rfl, rfl, rfl, rfl⟩ := e1
            obtain ⟨⟨r0, r1, r2, r3, r4⟩, -⟩ := blk5 hbx
            obtain ⟨⟨x0, x1, x2, x3, x4⟩, ⟨f0, f1, f2, f3, f4⟩⟩ := blk5 S2.box
            clear hF hl hl' hbx hXc hYc K3
            cases rb
            · have hnx' := Lib.hid (hnx.out.trans (if_neg (by simp)))
              replace S2 := Lib.hid S2
              clear hnx S how
              go_wp2
              go_roundw
              case rel => exact ⟨k + 1, dk, m, _, _, _, _, _, _, _, _, by omega, by go_num, rfl, hnx'.out, by omega, S2.out⟩
              case measure => simp [intOf]; omega
            · have hnx' := Lib.hid (hnx.out.trans (if_pos rfl))
              have S4 := Lib.hid (S2.put how)
              clear hnx S S2 how
              go_wp2
              go_roundw
              case rel => exact ⟨k + 1, du, m + 1, _, _, _, _, _, _, _, _, by omega, by go_num, rfl, hnx'.out, by omega, S4.out⟩
              case measure => simp [intOf]; omega
          · rintro l a w' ⟨s9, s10, s28, s29, s30, s31, s32, s33, s34, s35, s36, rfl, hF⟩ hsz i o hlt ho hun hall
            have hlt' : i < 12 := hlt
            refine wpOp_step ho (fun K' hK => ?_)
            replace hK := Lib.hid hK
            obtain rfl | rfl | rfl | rfl | rfl | rfl | rfl | rfl | rfl | rfl | rfl | rfl : i = 0 ∨ i = 1 ∨ i = 2 ∨ i = 3 ∨ i = 4 ∨ i = 5 ∨ i = 6 ∨ i = 7 ∨ i = 8 ∨ i = 9 ∨ i = 10 ∨ i = 11 := by omega
            · simp only [List.getElem?_toArray, List.getElem?_cons_zero, Option.some.injEq] at ho
              subst ho
              obtain ⟨x0, x1, x2, x3, x4⟩ := hXc.out _ hF.low
              replace hF := Lib.hid hF
              clear hall
              go_simp
              refine hK.out _ _ ?_
              exact ⟨_, _, _, _, _, _, _, _, _, _, _, rfl, hF.out.up0 rfl⟩
            · simp only [List.getElem?_toArray, List.getElem?_cons_succ, List.getElem?_cons_zero, Option.some.injEq] at ho
              subst ho
              replace hF := Lib.hid hF
              clear hall
              go_simp
              refine hK.out _ _ ?_
              exact ⟨_, _, _, _, _, _, _, _, _, _, _, rfl, hF.out.up1 rfl⟩
            · simp only [List.getElem?_toArray, List.getElem?_cons_succ, List.getElem?_cons_zero, Option.some.injEq] at ho
              subst ho
              replace hF := Lib.hid hF
              clear hall
              go_simp
              refine hK.out _ _ ?_
              exact ⟨_, _, _, _, _, _, _, _, _, _, _, rfl, hF.out.up2 rfl⟩
            · simp only [List.getElem?_toArray, List.getElem?_cons_succ, List.getElem?_cons_zero, Option.some.injEq] at ho
              subst ho
              have e1 := hF.f1 (hall ⟨1, Ground.data⟩ (by simp) rfl)
              subst e1
              have e2 := hF.f2 (hall ⟨2, Ground.data⟩ (by simp) rfl)
              subst e2
              replace hF := Lib.hid hF
              clear hall
              go_simp
              refine hK.out _ _ ?_
              exact ⟨_, _, _, _, _, _, _, _, _, _, _, rfl, hF.out.up3 rfl⟩
            · simp only [List.getElem?_toArray, List.getElem?_cons_succ, List.getElem?_cons_zero, Option.some.injEq] at ho
              subst ho
              have e3 := hF.f3 (hall ⟨3, Ground.data⟩ (by simp) rfl)
              subst e3
              obtain ⟨y1, y2⟩ := hYc.out _ hF.low
              replace hF := Lib.hid hF
              clear hall
              go_simp
              refine hK.out _ _ ?_
              exact ⟨_, _, _, _, _, _, _, _, _, _, _, rfl, hF.out.up4 rfl⟩
            · simp only [List.getElem?_toArray, List.getElem?_cons_succ, List.getElem?_cons_zero, Option.some.injEq] at ho
              subst ho
              have e0 := hF.f0 (hall ⟨0, Ground.data⟩ (by simp) rfl)
              subst e0
              have e4 := hF.f4 (hall ⟨4, Ground.data⟩ (by simp) rfl)
              subst e4
              have KK := Lib.hid (K3.out _ hF.low)
              have hls := hF.low.size
              replace hF := Lib.hid hF
              clear hall
              go_simp
              go_at_call 15
              refine KK.out.mono ?_
              rintro e V ⟨v, rfl, om, -, bm⟩
              go_simp
              refine hK.out _ _ ?_
              exact ⟨_, _, _, _, _, _, _, _, _, _, _, rfl, hF.out.up5 ⟨_, _, rfl, om.mono (by omega), rfl⟩ bm⟩
            · simp only [List.getElem?_toArray, List.getElem?_cons_succ, List.getElem?_cons_zero, Option.some.injEq] at ho
              subst ho
              obtain ⟨xa, ya, ea, pa, qa⟩ := hF.f5 (hall ⟨5, Ground.data⟩ (by simp) rfl)
              subst ea
              replace pa := Lib.hid pa
              subst qa
              replace hF := Lib.hid hF
              clear hall
              go_simp
              refine hK.out _ _ ?_
              exact ⟨_, _, _, _, _, _, _, _, _, _, _, rfl, hF.out.up6 ⟨_, _, rfl, pa.out, rfl⟩⟩
            · simp only [List.getElem?_toArray, List.getElem?_cons_succ, List.getElem?_cons_zero, Option.some.injEq] at ho
              subst ho
              obtain ⟨xa, ya, ea, pa, qa⟩ := hF.f6 (hall ⟨6, Ground.data⟩ (by simp) rfl)
              subst ea
              replace pa := Lib.hid pa
              subst qa
              replace hF := Lib.hid hF
              clear hall
              go_simp
              refine hK.out _ _ ?_
              exact ⟨_, _, _, _, _, _, _, _, _, _, _, rfl, hF.out.up7 pa.out⟩
            · simp only [List.getElem?_toArray, List.getElem?_cons_succ, List.getElem?_cons_zero, Option.some.injEq] at ho
              subst ho
              obtain ⟨xa, ya, ea, pa, qa⟩ := hF.f6 (hall ⟨6, Ground.data⟩ (by simp) rfl)
              subst ea
              replace pa := Lib.hid pa
              subst qa
              replace hF := Lib.hid hF
              clear hall
              go_simp
              refine hK.out _ _ ?_
              exact ⟨_, _, _, _, _, _, _, _, _, _, _, rfl, hF.out.up8 rfl⟩
            · simp only [List.getElem?_toArray, List.getElem?_cons_succ, List.getElem?_cons_zero, Option.some.injEq] at ho
              subst ho
              replace hF := Lib.hid hF
              clear hall
              go_simp
              refine hK.out _ _ ?_
              exact ⟨_, _, _, _, _, _, _, _, _, _, _, rfl, hF.out.up9 hsz hun⟩
            · simp only [List.getElem?_toArray, List.getElem?_cons_succ, List.getElem?_cons_zero, Option.some.injEq] at ho
              subst ho
              have ho' := hF.f7 (hall ⟨7, Ground.data⟩ (by simp) rfl)
              obtain ⟨Y1, j1, Y2, j2, Y3, j3, Y5, j5, ey, -⟩ := ho'.dsk.ex
              subst ey
              have hA := (hall ⟨9, Ground.data⟩ (by simp) rfl)
              obtain ⟨q8, e3, hq', hh⟩ := hF.f9 hA
              subst e3
              have hz := hh hun
              obtain ⟨⟨r0, r1, r2, r3, r4⟩, ⟨g0, g1, g2, g3, g4⟩⟩ := blk5 hz
              replace hz := Lib.hid hz
              replace ho' := Lib.hid ho'
              replace hF := Lib.hid hF
              clear hall
              go_simp
              refine hK.out _ _ ?_
              exact ⟨_, _, _, _, _, _, _, _, _, _, _, rfl, hF.out.up10 hsz hA rfl hq' hz.out ho'.out⟩
            · simp only [List.getElem?_toArray, List.getElem?_cons_succ, List.getElem?_cons_zero, Option.some.injEq] at ho
              subst ho
              have ea := hF.f8 (hall ⟨8, Ground.data⟩ (by simp) rfl)
              subst ea
              replace hF := Lib.hid hF
              clear hall
              go_simp
              refine hK.out _ _ ?_
              exact ⟨_, _, _, _, _, _, _, _, _, _, _, rfl, hF.out.up11 rfl⟩
          · exact ⟨_, _, _, _, _, _, _, _, _, _, _, rfl, (fun h => by simp at h), (fun h => by simp at h), (fun h => by simp at h), (fun h => by simp at h), (fun h => by simp at h), (fun h => by simp at h), (fun h => by simp at h), (fun h => by simp at h), (fun h => by simp at h), (fun h => by simp at h), (fun h => by simp at h), (fun h => by simp at h), (fun h => by simp at h), (Below.refl _ _).drew⟩
        · obtain rfl : k = n := by omega
          have hall : runTo d q = (dk, m) := by
            rw [← hr, List.take_of_length_le (by have := hql.out; omega)]
          rw [hall] at hg
          obtain ⟨⟨x0, x1, x2, x3, x4⟩, -⟩ := blk5 S.box
          obtain ⟨⟨z0, z1, z2, z3, z4⟩, ⟨e0, e1, e2, e3, e4⟩⟩ := blk5 S.res
          have HF := Lib.hid S.finish
          replace hr := Lib.hid hr
          clear hall
          go_wp2
          refine bodyPost_ret (v := .tuple #[.agg #[.slice Z1 dk.t.us.length zz1, .slice Z2 dk.t.bs.length zz2, .slice Z3 dk.t.ns.length zz3, .int .i64 dk.now, .slice Z5 dk.past.length zz5], .int .i64 (m : Int)]) (by simp [results, Try.results8, go_sem, z0, z1, z2, z3, z4]) rfl ?_
          rw [hg.out]
          exact ⟨_, rfl, (HF.out _ _ _ _ _).1, (HF.out _ _ _ _ _).2⟩
    · have hl1 : 40 < (n : Int) := by omega
      have hl2 : decide (40 < (n : Int)) = true := decide_eq_true hl1
      have hg := Lib.hid (hend.out (hno.out (fun hh => by have := hql.out; omega)))
      obtain ⟨⟨z0, z1, z2, z3, z4⟩, ⟨e0, e1, e2, e3, e4⟩⟩ := blk5 HZ1.out
      clear HX1 HZ1 HD1 HQ hno hyes hend hsn hrok
      go_wp2
      refine bodyPost_ret (v := .tuple #[.agg #[.slice none 0 0, .slice none 0 0, .slice none 0 0, .int .i64 0, .slice none 0 0], .int .i64 0]) (by simp [results, Try.results8, go_sem, z0, z1, z2, z3, z4]) rfl ?_
      exact hg.out _ _ _ _ _
end Go.Proofs.Ytjnlpknjdclalaa
