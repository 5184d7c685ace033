/-
  The contract of the program's NextName.
-/
import Derived.Test.YteemgkabhkdeaaaP4e
import Derived.Test.YteemgkabhkdeaaaR8
namespace Go.Proofs.Yteemgkabhkdeaaa
open Go.RowKit

set_option maxRecDepth 100000 in
set_option maxHeartbeats 4000000 in
theorem implNextName_any (v : Value) (t : Tg) (A : Option Addr) (n c : Nat) (l : List ByteArray) (w : World) (h : Tng w v t) (hf : t.Fine) (hl : Strs w A n c l) (hn : n ≤ 2000000) (hsz : ∀ x ∈ l, x.size ≤ 1048576) :
    Calls Try.prog 15 #[v, .slice A n c] w (RetStrs2 w (nextV t l) (nextB t l)) := by
  obtain ⟨A1, c1, A2, c2, A3, c3, rfl, -⟩ := h.ex
  have hB := (Below.refl w.heap.size w).alloc (Nat.le_refl _) (.cells #[.slice A1 t.us.length c1, .slice A2 t.bs.length c2, .slice A3 t.ns.length c3] 26)
  have HX := Blk.new w 26 #[.slice A1 t.us.length c1, .slice A2 t.bs.length c2, .slice A3 t.ns.length c3]
  have HT := h.below hB (Nat.le_refl _)
  have HL := hl.below hB (Nat.le_refl _)
  replace hB := Lib.hid hB
  replace HX := Lib.hid HX
  replace HT := Lib.hid HT
  replace HL := Lib.hid HL
  replace hsz := Lib.hid hsz
  clear h hl
  go_enter Try.func15, Try.ntmps15
  go_upto_region 1 with (fail)
  generalize w.alloc (.cells #[.slice A1 t.us.length c1, .slice A2 t.bs.length c2, .slice A3 t.ns.length c3] 26) = W at *
  have KR := Lib.hid (implReadName_any _ t A n c l W HT.out hf HL.out hn hsz.out)
  obtain ⟨x0, x1, x2, -, -, -⟩ := blk3 HX.out
  go_wp2_with (fail)
  refine KR.out.mono ?_
  rintro e w3 ⟨rfl, b3⟩
  have hB3 := Lib.hid (hB.out.trans (b3.mono hB.out.size))
  have HT3 := HT.out.below b3 (Nat.le_refl _)
  have HX3 := Lib.hid (HX.out.below b3 HX.out.lt)
  have hrd := readV_bd t l
  have KN := Lib.hid (implNameOf_any _ t (readV t l + 1) w3 HT3 hf (by omega))
  have HY := Lib.hid (fun h => next_yes (t := t) (l := l) h)
  have HN := Lib.hid (fun h => next_no (t := t) (l := l) h)
  clear b3 x0 x1 x2 KR HT3
  obtain ⟨x0, x1, x2, -, -, -⟩ := blk3 HX3.out
  generalize readV t l = rv at *
  generalize readB t l = rb at *
  generalize nextV t l = xs at *
  generalize nextB t l = xb at *
  cases rb
  · obtain ⟨e1, e2⟩ := HN.out rfl
    subst e1 e2
    go_wp2
    go_ret2
    exact ⟨_, rfl, owns_none _ _ _, hB3.out⟩
  · obtain ⟨e1, e2⟩ := HY.out rfl
    subst e1 e2
    go_wp2_with (fail)
    refine KN.out.mono ?_
    rintro e w4 ⟨v4, rfl, o4, b4⟩
    have o5 := Lib.hid (own_mono o4 hB3.out.size)
    have hB4 := Lib.hid (hB3.out.trans (b4.mono hB3.out.size))
    clear b4 o4
    go_wp2
    go_ret2
    exact ⟨_, rfl, o5.out, hB4.out⟩
end Go.Proofs.Yteemgkabhkdeaaa
