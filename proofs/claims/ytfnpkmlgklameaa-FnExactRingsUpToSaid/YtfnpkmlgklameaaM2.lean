/-
  A path of the program: a map that remembers letters; pathIn; next.
-/
import Derived.Test.YtfnpkmlgklameaaM1
import Derived.Test.YtfnpkmlgklameaaLK
import Derived.Maps.OwnSet
import Derived.Maps.Views
namespace Go.Proofs.Ytfnpkmlgklameaa
open Go.RowKit Go.WideMaps Go.Maps

abbrev keyI (x : Int) : Lit := .int .i64 x
theorem keyI_is (x : Int) : WideAt.IsKeyLit (keyI x) := trivial
theorem keyI_inj {a b : Int} (h : a ≠ b) : keyI a ≠ keyI b := fun e => h (by injection e)
theorem keyLawI : Keyed Try.prog 3 := int_keyed Try.underlying3
theorem zeroInt8 (w : World) : (zeroValue 3).run Try.prog w = .ok (.int .i64 0) w := by kernel_rfl
/-- What a path remembers is so. -/
def MemoD (f : Int → Int) (D : DataW Unit) : Prop := ∀ x, Maps.has D (keyI x) = true → D.atKey (keyI x) (.lit (.int .i64 0)) = .lit (.int .i64 (f x))
theorem memo_empty (f : Int → Int) : MemoD f (.map []) := fun x h => by simp [Maps.has] at h
theorem memo_put {f : Int → Int} {D : DataW Unit} (hM : IsMap D) (h : MemoD f D) (x : Int) : MemoD f (D.put (keyI x) (.lit (.int .i64 (f x)))) := fun y hy => by
  by_cases e : y = x
  · subst e; exact atKey_put_same hM (keyI_is _) _ _
  · rw [atKey_put_other (keyI_inj e)]
    rw [has_put_other (keyI_inj e)] at hy
    exact h y hy
/-- While a path is led: the map at block b. -/
structure PS (w0 : World) (f : Int → Int) (b N : Nat) (w : World) : Prop where
  low : Below w0.heap.size w0 w
  ge : w0.heap.size ≤ b
  memo : ∃ n D, n ≤ N ∧ w.ownsMap Try.prog 3 (plainElem Try.prog 3) b n D ∧ MemoD f D
theorem PS.kept {w0 w w' : World} {f : Int → Int} {b N : Nat} (h : PS w0 f b N w) (hb : Below w.heap.size w w') : PS w0 f b N w' := by
  obtain ⟨n, D, h1, h2, h3⟩ := h.memo
  exact ⟨h.low.trans (hb.mono h.low.size), h.ge, n, D, h1, h2.kept (grown_of_below none hb) (by simp), h3⟩
theorem PS.mono {w0 w : World} {f : Int → Int} {b N N' : Nat} (h : PS w0 f b N w) (hN : N ≤ N') : PS w0 f b N' w := by
  obtain ⟨n, D, h1, h2, h3⟩ := h.memo
  exact ⟨h.low, h.ge, n, D, by omega, h2, h3⟩
theorem PS.lt {w0 w : World} {f : Int → Int} {b N : Nat} (h : PS w0 f b N w) : b < w.heap.size := by
  obtain ⟨n, D, h1, h2, h3⟩ := h.memo
  exact h2.lt
theorem Blk4 {w : World} {g : Nat} {t : TypeId} {x y z u : Value} (h : Blk w g t #[x, y, z, u]) : w.cell? ⟨g, 0, none⟩ = some x ∧ w.cell? ⟨g, 1, none⟩ = some y ∧ w.cell? ⟨g, 2, none⟩ = some z ∧ w.cell? ⟨g, 3, none⟩ = some u :=
  ⟨by rw [h.cell]; rfl, by rw [h.cell]; rfl, by rw [h.cell]; rfl, by rw [h.cell]; rfl⟩

/-- The answer of next, and what it leaves. -/
def RetNext (w0 : World) (f : Int → Int) (b N : Nat) (x : Int) (w : World) (e : Ending) (w' : World) : Prop := e = .returned (.int .i64 (f x)) ∧ PS w0 f b (N + 1) w' ∧ w.grownBy w' (some b)

set_option maxRecDepth 100000 in
set_option maxHeartbeats 4000000 in
theorem next_any (w0 : World) (A1 A2 A3 : Option Addr) (c1 c2 c3 : Nat) (t : Tg) (hT : Tng w0 (.agg #[.slice A1 t.us.length c1, .slice A2 t.bs.length c2, .slice A3 t.ns.length c3]) t) (hf : t.Fine)
    (b N : Nat) (hN : N ≤ 100000000) (x : Int) (hx : -9223372036854775808 ≤ x ∧ x ≤ 9223372036854775807) (w : World) (h : PS w0 (lettersOf t) b N w) :
    Calls Try.prog 68 #[.agg #[.slice A1 t.us.length c1, .slice A2 t.bs.length c2, .slice A3 t.ns.length c3, .map (some b)], .int .i64 x] w (RetNext w0 (lettersOf t) b N x w) := by
  have hA := (Below.refl w.heap.size w).alloc (Nat.le_refl _) (.cells #[.slice A1 t.us.length c1, .slice A2 t.bs.length c2, .slice A3 t.ns.length c3, .map (some b)] 62)
  have HX := Blk.new w 62 #[.slice A1 t.us.length c1, .slice A2 t.bs.length c2, .slice A3 t.ns.length c3, .map (some b)]
  have S1 := h.kept hA
  have hG := Lib.hid (grown_of_below (some b) hA)
  have hltb := h.lt
  have KL := Lib.hid (implLettersOf_any _ t x _ (hT.below S1.low (Nat.le_refl _)) hf hx)
  have hbd := letters_bd t x
  have hkey := Lib.hid (keyOf_int_mk (P := Try.prog) (q := .i64) (a := x) Try.underlying3 (by simp [Lit.wf, IntKind.min, IntKind.max, IntKind.signed, IntKind.bits]; omega))
  obtain ⟨n, D, hnN, hown, hmemo⟩ := S1.memo
  have hmx := Lib.hid (hmemo x)
  have hput := Lib.hid (memo_put hown.isMap hmemo x)
  have hzero := Lib.hid (zeroInt8 (w.alloc (.cells #[.slice A1 t.us.length c1, .slice A2 t.bs.length c2, .slice A3 t.ns.length c3, .map (some b)] 62)))
  have hbw := Lib.hid (show b ≠ w.heap.size by omega)
  generalize lettersOf t = f at *
  generalize hfx : f x = y at *
  replace hfx := Lib.hid hfx
  replace HX := Lib.hid HX
  replace S1 := Lib.hid S1
  replace hA := Lib.hid hA
  replace hown := Lib.hid hown
  clear h hT hf hmemo
  go_enter Try.func68, Try.ntmps68
  go_upto_region 1 with (fail)
  obtain ⟨x0, x1, x2, x3⟩ := Blk4 HX.out
  generalize w.alloc (.cells #[.slice A1 t.us.length c1, .slice A2 t.bs.length c2, .slice A3 t.ns.length c3, .map (some b)] 62) = W at *
  go_upto_region 2 with (at_lookup; refine wpList_lookup_own_ok_int _ rfl _ _ 60 rfl 3 3 .i64 keyLawI Try.underlying60 Try.underlying3 hzero.out b n D rfl hown.out _ _ rfl hkey.out ?_; intro c hat hwc)
  cases hh : Maps.has D (keyI x)
  · replace hat := Lib.hid hat
    go_wp2_with (fail)
    refine KL.out.mono ?_
    rintro e w2 ⟨rfl, b2⟩
    obtain ⟨y0, y1, y2, y3⟩ := Blk4 (HX.out.below b2 HX.out.lt)
    have hown2 := Lib.hid (hown.out.kept (grown_of_below none b2) (by simp))
    have hG2 := Lib.hid (hG.out.trans (grown_of_below (some b) b2))
    have S2 := S1.out.kept b2
    have hl2 := S2.lt
    have hge := S2.ge
    have hs2 := S2.low.size
    replace S2 := Lib.hid S2
    clear x0 x1 x2 x3 b2 KL
    go_wp2_with (at_mapUpdate; refine wpList_mapUpdate_own _ rfl _ _ _ 60 rfl 3 3 keyLawI Try.underlying60 _ b n D rfl hown2.out (by unfold maxLen; omega) _ _ _ rfl rfl hkey.out _ [] (plainElem_int Try.underlying3 (by simp [Lit.wf, IntKind.min, IntKind.max, IntKind.signed, IntKind.bits]; omega)) ?_; intro w3 hown3 hg3)
    have hfin : RetNext w0 f b N x w (.returned (.int .i64 y)) w3 := ⟨by rw [hfx.out], ⟨S2.out.low.grown hg3 hs2 (fun k e => by cases e; exact hge), hge, n + 1, _, by omega, hown3, hput.out⟩, hG2.out.trans hg3⟩
    replace hfin := Lib.hid hfin
    clear hown3 hg3
    go_wp2
    go_ret
    exact hfin.out
  · have hc : c = y := by
      have e := hmx.out hh
      rw [hat] at e
      injection e with e
      injection e
    subst hc
    clear hat
    have hfin : RetNext w0 f b N x w (.returned (.int .i64 c)) W := ⟨by rw [hfx.out], S1.out.mono (by omega), hG.out⟩
    replace hfin := Lib.hid hfin
    go_wp2
    go_ret
    exact hfin.out
end Go.Proofs.Ytfnpkmlgklameaa
