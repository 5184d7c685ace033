/-
  DeskNew of the model, its past a whole row.
-/
import Derived.Test.YtjnlpknjdclalaaJc
import Derived.Test.YtjnlpknjdclalaaDkW
namespace Go.Proofs.Ytjnlpknjdclalaa
open Go.RowKit

set_option maxRecDepth 100000 in
set_option maxHeartbeats 4000000 in
theorem specDeskNewW_any (v : Value) (t : Tg) (n : Int) (w : World) (h : Tng w v t) (hf : t.Fine) (hn : -9223372036854775808 ≤ n ∧ n ≤ 9223372036854775807) :
    Calls Try.prog 52 #[v, .int .i64 n] w (RetMW w 0 (dkNew t n) (namedB t n)) := by
  obtain ⟨A1, c1, A2, c2, A3, c3, rfl, -⟩ := h.ex
  have hB := ((Below.refl w.heap.size w).alloc (Nat.le_refl _) (.cells #[.slice A1 t.us.length c1, .slice A2 t.bs.length c2, .slice A3 t.ns.length c3] 26)).alloc (by simp) (.cells #[.slice none 0 0, .slice none 0 0, .slice none 0 0, .int .i64 0, .slice none 0 0] 28)
  have HX := (Blk.new w 26 #[.slice A1 t.us.length c1, .slice A2 t.bs.length c2, .slice A3 t.ns.length c3]).alloc (.cells #[.slice none 0 0, .slice none 0 0, .slice none 0 0, .int .i64 0, .slice none 0 0] 28)
  have HZ : Blk ((w.alloc (.cells #[.slice A1 t.us.length c1, .slice A2 t.bs.length c2, .slice A3 t.ns.length c3] 26)).alloc (.cells #[.slice none 0 0, .slice none 0 0, .slice none 0 0, .int .i64 0, .slice none 0 0] 28)) (w.heap.size + 1) 28 #[.slice none 0 0, .slice none 0 0, .slice none 0 0, .int .i64 0, .slice none 0 0] := blk_new_at _ (by simp)
  have HT := h.below hB (Nat.le_refl _)
  have K1 := Lib.hid (specNameOf_any _ t n _ HT hf hn)
  have hnew : namedB t n = true → dkNew t n = ⟨t, n, []⟩ := fun e => (dk_new_ok e).1
  have hno : namedB t n = false → dkNew t n = noDk := dk_new_no
  generalize namedB t n = nb at *
  generalize nameOf t n = xs at *
  generalize dkNew t n = dn at *
  replace hnew := Lib.hid hnew
  replace hno := Lib.hid hno
  replace hf := Lib.hid hf
  replace hB := Lib.hid hB
  replace HX := Lib.hid HX
  replace HZ := Lib.hid HZ
  replace HT := Lib.hid HT
  clear h
  go_enter Try.func52, Try.ntmps52
  go_upto_region 1 with (fail)
  generalize (w.alloc (.cells #[.slice A1 t.us.length c1, .slice A2 t.bs.length c2, .slice A3 t.ns.length c3] 26)).alloc (.cells #[.slice none 0 0, .slice none 0 0, .slice none 0 0, .int .i64 0, .slice none 0 0] 28) = W at *
  obtain ⟨x0, x1, x2, -, -, -⟩ := blk3 HX.out
  go_wp2_with (fail)
  refine K1.out.mono ?_
  rintro e w1 ⟨v1, rfl, -, b1⟩
  have hB1 := Lib.hid (hB.out.trans (b1.mono hB.out.size))
  have HX1 := HX.out.below b1 HX.out.lt
  have HZ1 := HZ.out.below b1 HZ.out.lt
  have HT1 := HT.out.below b1 (Nat.le_refl _)
  clear x0 x1 x2 K1 b1 HX HZ HT hB
  obtain ⟨x0, x1, x2, -, -, -⟩ := blk3 HX1
  obtain ⟨⟨z0, z1, z2, z3, z4⟩, ⟨e0, e1, e2, e3, e4⟩⟩ := blk5 HZ1
  cases nb
  · have hg := Lib.hid (hno.out rfl)
    have HF := fun u0 u1 u2 u3 u4 => own_md5 (u0 := u0) (u1 := u1) (u2 := u2) (u3 := u3) (u4 := u4) (own_mdNo w1 w.heap.size) HZ1
    have HW := Lib.hid (fun u0 u1 u2 u3 u4 => own_wd5 (u0 := u0) (u1 := u1) (u2 := u2) (u3 := u3) (u4 := u4) (own_wdNo w1 w.heap.size) HZ1)
    have HG := fun u0 u1 u2 u3 u4 => below_dk5 (u0 := u0) (u1 := u1) (u2 := u2) (u3 := u3) (u4 := u4) (g := w.heap.size + 1) hB1.out (by omega)
    replace HF := Lib.hid HF
    replace HG := Lib.hid HG
    clear HX1 HZ1 HT1 hnew hno
    go_wp2
    refine bodyPost_ret (v := .tuple #[.agg #[.slice none 0 0, .slice none 0 0, .slice none 0 0, .int .i64 0, .slice none 0 0], .bool false]) (by simp [results, Try.results52, go_sem, z0, z1, z2, z3, z4]) rfl ?_
    rw [hg.out]
    exact ⟨_, rfl, HF.out _ _ _ _ _, (fun _ => HW.out _ _ _ _ _), HG.out _ _ _ _ _⟩
  · have hg := Lib.hid (hnew.out rfl)
    have K2 := Lib.hid (specTongue_any _ t w1 HT1 hf.out)
    have hs1 := HZ1.lt
    replace HZ1 := Lib.hid HZ1
    clear HX1 HT1 hnew hno z0 z1 z2 z3 z4 e0 e1 e2 e3 e4
    go_wp2_with (go_at_call 59; refine K2.out.mono ?_; rintro e w2 ⟨v2, rfl, o2, b2⟩; obtain ⟨X1, k1, X2, k2, X3, k3, rfl⟩ := o2.shape; refine Hid.out ?_)
    have HZ2 := HZ1.out.below b2 HZ1.out.lt
    obtain ⟨⟨z0, z1, z2, z3, z4⟩, ⟨e0, e1, e2, e3, e4⟩⟩ := blk5 HZ2
    have hB2 := hB1.out.trans (b2.mono hB1.out.size)
    have HM : MDk w2 w.heap.size (.agg #[.slice X1 t.us.length k1, .slice X2 t.bs.length k2, .slice X3 t.ns.length k3, .int .i64 n, .slice none 0 0]) ⟨t, n, []⟩ := ⟨_, _, _, _, rfl, o2.mono hB1.out.size, OwnI.tail (owns_none _ _ _)⟩
    have HF := fun u0 u1 u2 u3 u4 => own_md5 (u0 := u0) (u1 := u1) (u2 := u2) (u3 := u3) (u4 := u4) HM HZ2
    have WM : WDk w2 w.heap.size (.agg #[.slice X1 t.us.length k1, .slice X2 t.bs.length k2, .slice X3 t.ns.length k3, .int .i64 n, .slice none 0 0]) ⟨t, n, []⟩ := ⟨_, _, _, _, rfl, o2.mono hB1.out.size, owns_none _ _ _, fun k _ e => by simp [Value.ownBlock] at e⟩
    have HW := Lib.hid (fun u0 u1 u2 u3 u4 => own_wd5 (u0 := u0) (u1 := u1) (u2 := u2) (u3 := u3) (u4 := u4) WM HZ2)
    clear WM
    have HG := fun u0 u1 u2 u3 u4 => below_dk5 (u0 := u0) (u1 := u1) (u2 := u2) (u3 := u3) (u4 := u4) (g := w.heap.size + 1) hB2 (by omega)
    replace HF := Lib.hid HF
    replace HG := Lib.hid HG
    clear x0 x1 x2 o2 b2 HM HZ2 HZ1 hB2 hB1 K2
    refine Lib.hid ?_
    go_wp2
    refine bodyPost_ret (v := .tuple #[.agg #[.slice X1 t.us.length k1, .slice X2 t.bs.length k2, .slice X3 t.ns.length k3, .int .i64 n, .slice none 0 0], .bool true]) (by simp [results, Try.results52, go_sem, z0, z1, z2, z3, z4]) rfl ?_
    rw [hg.out]
    exact ⟨_, rfl, HF.out _ _ _ _ _, (fun _ => HW.out _ _ _ _ _), HG.out _ _ _ _ _⟩
end Go.Proofs.Ytjnlpknjdclalaa
