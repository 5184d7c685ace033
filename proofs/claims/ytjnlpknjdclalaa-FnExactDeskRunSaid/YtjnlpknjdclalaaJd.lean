/-
  The contract of DeskDo of the model.
-/
import Derived.Test.YtjnlpknjdclalaaJc
import Derived.Test.YtjnlpknjdclalaaDkW
namespace Go.Proofs.Ytjnlpknjdclalaa
open Go.RowKit

theorem own_offM {a b : World} {B n : Nat} {e : TypeId} {u : Value} {xs : List Value} {row : Option Nat} (h : a.ownsRow B e 1 u n xs) (hg : a.grownBy b row) (hne : ∀ k, u.ownBlock = some k → row ≠ some k) : b.ownsRow B e 1 u n xs := by
  refine h.kept hg ?_
  cases hv : u.ownBlock with
  | none => exact .inl rfl
  | some k => exact .inr fun e => hne k hv e.symm
theorem setI {w : World} {B g i : Nat} {v u : Value} {cs : Array Value} {xs : List Int} (h : OwnI w B v xs) (hb : Blk w g 28 cs) : OwnI (w.setCell ⟨g, i, none⟩ u) B v xs := own_set h (own_blk_ne h hb (by decide))
/-- A full past without its first number. -/
theorem tail_one {w : World} {B g c : Nat} {past : List Int} {now : Int} (h8 : past.length = 8) (hc : 1 ≤ c) (h : OwnI w B (.slice (some ⟨g, 0, none⟩) (past.length + 1) c) (past ++ [now])) : TailI w B (.slice (some ⟨g, 1, none⟩) past.length (c - 1)) ((past ++ [now]).drop (past.length + 1 - 8)) := by
  have hxl : ((past ++ [now]).drop (past.length + 1 - 8)).length = past.length := by rw [List.length_drop, List.length_append, List.length_singleton]; omega
  obtain ⟨z, r, er⟩ : ∃ z r, past = z :: r := by
    cases hp : past with
    | nil => rw [hp] at h8; simp at h8
    | cons z r => exact ⟨z, r, rfl⟩
  have hd1 : (past ++ [now]).drop (past.length + 1 - 8) = r ++ [now] := by rw [h8, er]; rfl
  have hc1 : c - 1 + 1 = c := by omega
  refine ⟨.inr ⟨z, g, c - 1, ?_, by rw [hxl]⟩⟩
  have hz : (z :: (past ++ [now]).drop (past.length + 1 - 8)) = past ++ [now] := by rw [hd1, er]; rfl
  rw [hz, hxl, hc1]
  exact h
theorem dsk_tng {w : World} {d : Dk} {A1 A2 A3 A5 : Option Addr} {c1 c2 c3 c5 : Nat} (h : Dsk w (.agg #[.slice A1 d.t.us.length c1, .slice A2 d.t.bs.length c2, .slice A3 d.t.ns.length c3, .int .i64 d.now, .slice A5 d.past.length c5]) d) : Tng w (.agg #[.slice A1 d.t.us.length c1, .slice A2 d.t.bs.length c2, .slice A3 d.t.ns.length c3]) d.t := by
  obtain ⟨B1, e1, B2, e2, B3, e3, B5, e5, e, h1, h2, h3, -⟩ := h.ex
  cases e
  exact ⟨_, _, _, _, _, _, rfl, h1, h2, h3⟩
theorem LDk.shape {w : World} {B : Nat} {v : Value} {d : Dk} (h : LDk w B v d) : ∃ A1 c1 A2 c2 A3 c3 A5 c5, v = .agg #[.slice A1 d.t.us.length c1, .slice A2 d.t.bs.length c2, .slice A3 d.t.ns.length c3, .int .i64 d.now, .slice A5 d.past.length c5] := by
  obtain ⟨A1, c1, A2, c2, A3, c3, A5, c5, e, -⟩ := h.dsk.ex
  exact ⟨A1, c1, A2, c2, A3, c3, A5, c5, e⟩

set_option maxRecDepth 100000 in
set_option maxHeartbeats 8000000 in
theorem specDeskDo_any (v : Value) (d : Dk) (a : Dd) (w : World) (h : Dsk w v d) (hf : d.Fine) :
    Calls Try.prog 15 #[v, .agg #[.int .i64 a.kind, .int .i64 a.n]] w (RetMW w d.past.length (dkDo d a).1 (dkDo d a).2) := by
  obtain ⟨A1, c1, A2, c2, A3, c3, A5, c5, rfl, -⟩ := h.ex
  obtain ⟨kd, n⟩ := a
  dsimp only
  have hB := (((Below.refl w.heap.size w).alloc (Nat.le_refl _) (.cells #[.slice A1 d.t.us.length c1, .slice A2 d.t.bs.length c2, .slice A3 d.t.ns.length c3, .int .i64 d.now, .slice A5 d.past.length c5] 28)).alloc (by simp) (.cells #[.int .i64 kd, .int .i64 n] 47)).alloc (by simp; omega) (.cells #[.slice none 0 0, .slice none 0 0, .slice none 0 0, .int .i64 0, .slice none 0 0] 28)
  have HX := ((Blk.new w 28 #[.slice A1 d.t.us.length c1, .slice A2 d.t.bs.length c2, .slice A3 d.t.ns.length c3, .int .i64 d.now, .slice A5 d.past.length c5]).alloc (.cells #[.int .i64 kd, .int .i64 n] 47)).alloc (.cells #[.slice none 0 0, .slice none 0 0, .slice none 0 0, .int .i64 0, .slice none 0 0] 28)
  have HY : Blk (((w.alloc (.cells #[.slice A1 d.t.us.length c1, .slice A2 d.t.bs.length c2, .slice A3 d.t.ns.length c3, .int .i64 d.now, .slice A5 d.past.length c5] 28)).alloc (.cells #[.int .i64 kd, .int .i64 n] 47)).alloc (.cells #[.slice none 0 0, .slice none 0 0, .slice none 0 0, .int .i64 0, .slice none 0 0] 28)) (w.heap.size + 1) 47 #[.int .i64 kd, .int .i64 n] := (blk_new_at _ (by simp)).alloc _
  have HZ : Blk (((w.alloc (.cells #[.slice A1 d.t.us.length c1, .slice A2 d.t.bs.length c2, .slice A3 d.t.ns.length c3, .int .i64 d.now, .slice A5 d.past.length c5] 28)).alloc (.cells #[.int .i64 kd, .int .i64 n] 47)).alloc (.cells #[.slice none 0 0, .slice none 0 0, .slice none 0 0, .int .i64 0, .slice none 0 0] 28)) (w.heap.size + 2) 28 #[.slice none 0 0, .slice none 0 0, .slice none 0 0, .int .i64 0, .slice none 0 0] := blk_new_at _ (by simp)
  have HD := h.below hB (Nat.le_refl _)
  have K1 := Lib.hid (specDeskOk_any _ d _ HD hf)
  have hno := Lib.hid (do_no (d := d) (a := ⟨kd, n⟩))
  have hback := Lib.hid (do_back (d := d) (a := ⟨kd, n⟩))
  have hput := Lib.hid (do_put (d := d) (a := ⟨kd, n⟩))
  have hdk := Lib.hid ((dkOk_iff d).1)
  have hff := Lib.hid hf
  generalize hnb : dkOk d = nb at *
  replace hnb := Lib.hid hnb
  replace hB := Lib.hid hB
  replace HX := Lib.hid HX
  replace HY := Lib.hid HY
  replace HZ := Lib.hid HZ
  replace HD := Lib.hid HD
  clear h hf
  go_enter Try.func15, Try.ntmps15
  go_upto_region 1 with (fail)
  generalize ((w.alloc (.cells #[.slice A1 d.t.us.length c1, .slice A2 d.t.bs.length c2, .slice A3 d.t.ns.length c3, .int .i64 d.now, .slice A5 d.past.length c5] 28)).alloc (.cells #[.int .i64 kd, .int .i64 n] 47)).alloc (.cells #[.slice none 0 0, .slice none 0 0, .slice none 0 0, .int .i64 0, .slice none 0 0] 28) = W at *
  obtain ⟨⟨x0, x1, x2, x3, x4⟩, -⟩ := blk5 HX.out
  go_wp2_with (fail)
  refine K1.out.mono ?_
  rintro e w1 ⟨rfl, b1⟩
  have hB1 := Lib.hid (hB.out.trans (b1.mono hB.out.size))
  have HX1 := Lib.hid (HX.out.below b1 HX.out.lt)
  have HY1 := Lib.hid (HY.out.below b1 HY.out.lt)
  have HZ1 := Lib.hid (HZ.out.below b1 HZ.out.lt)
  have HD1 := Lib.hid (HD.out.below b1 (Nat.le_refl _))
  clear x0 x1 x2 x3 x4 K1 b1 HX HY HZ HD hB
  cases nb
  · have hg := Lib.hid (hno.out (by simp))
    obtain ⟨⟨z0, z1, z2, z3, z4⟩, ⟨e0, e1, e2, e3, e4⟩⟩ := blk5 HZ1.out
    have HF := fun u0 u1 u2 u3 u4 => own_md5 (u0 := u0) (u1 := u1) (u2 := u2) (u3 := u3) (u4 := u4) (own_mdNo w1 w.heap.size) HZ1.out
    have HW := Lib.hid (fun u0 u1 u2 u3 u4 => own_wd5 (u0 := u0) (u1 := u1) (u2 := u2) (u3 := u3) (u4 := u4) (own_wdNo w1 w.heap.size) HZ1.out)
    have HG := fun u0 u1 u2 u3 u4 => below_dk5 (u0 := u0) (u1 := u1) (u2 := u2) (u3 := u3) (u4 := u4) (g := w.heap.size + 2) hB1.out (by omega)
    replace HF := Lib.hid HF
    replace HG := Lib.hid HG
    clear HX1 HY1 HZ1 HD1 hno hback hput hdk
    go_wp2
    refine bodyPost_ret (v := .tuple #[.agg #[.slice none 0 0, .slice none 0 0, .slice none 0 0, .int .i64 0, .slice none 0 0], .bool false]) (by simp [results, Try.results15, go_sem, z0, z1, z2, z3, z4]) rfl ?_
    rw [hg.out]
    exact ⟨_, rfl, HF.out _ _ _ _ _, (fun _ => HW.out _ _ _ _ _), HG.out _ _ _ _ _⟩
  · obtain ⟨d1, d2, d3⟩ := hdk.out (by simp)
    have hnow := named_bd d1
    have K2 := Lib.hid (specCopy_any _ d w1 HD1.out hff.out)
    obtain ⟨⟨x0, x1, x2, x3, x4⟩, ⟨f0, f1, f2, f3, f4⟩⟩ := blk5 HX1.out
    have hs1 := HZ1.out.lt
    clear d1 d2 hno hdk
    go_wp2_with (go_at_call 31; refine K2.out.mono ?_; rintro e w2 ⟨v2, rfl, o2, b2⟩; obtain ⟨X1, k1, X2, k2, X3, k3, X5, k5, rfl⟩ := o2.shape; refine Hid.out ?_)
    have hAl := (Below.refl w2.heap.size w2).alloc (Nat.le_refl _) (.cells #[.slice X1 d.t.us.length k1, .slice X2 d.t.bs.length k2, .slice X3 d.t.ns.length k3, .int .i64 d.now, .slice X5 d.past.length k5] 28)
    have b2' := b2.trans (hAl.mono b2.size)
    have XA := Lib.hid (HX1.out.below b2' HX1.out.lt)
    have YA := Lib.hid (HY1.out.below b2' HY1.out.lt)
    have ZA := Lib.hid (HZ1.out.below b2' HZ1.out.lt)
    have BA := Lib.hid (hB1.out.trans (b2'.mono hB1.out.size))
    have HDV := Lib.hid (HD1.out.below b2' (Nat.le_refl _))
    have OA := Lib.hid (o2.below hAl (Nat.le_refl _))
    have QA := Lib.hid (Blk.new w2 28 #[.slice X1 d.t.us.length k1, .slice X2 d.t.bs.length k2, .slice X3 d.t.ns.length k3, .int .i64 d.now, .slice X5 d.past.length k5])
    have hs2 := b2.size
    have hsV : w2.heap.size < (w2.alloc (.cells #[.slice X1 d.t.us.length k1, .slice X2 d.t.bs.length k2, .slice X3 d.t.ns.length k3, .int .i64 d.now, .slice X5 d.past.length k5] 28)).heap.size := by simp
    clear hAl b2 b2' o2 K2 HX1 HY1 HZ1 HD1 hB1 x0 x1 x2 x3 x4 f0 f1 f2 f3 f4
    refine Lib.hid ?_
    go_upto_region 4 with (fail)
    generalize w2.alloc (.cells #[.slice X1 d.t.us.length k1, .slice X2 d.t.bs.length k2, .slice X3 d.t.ns.length k3, .int .i64 d.now, .slice X5 d.past.length k5] 28) = V at *
    generalize w2.heap.size = q at *
    obtain ⟨⟨x0, x1, x2, x3, x4⟩, -⟩ := blk5 XA.out
    have yc0 : V.cell? ⟨w.heap.size + 1, 0, none⟩ = some (.int .i64 kd) := YA.out.cell 0
    have yc1 : V.cell? ⟨w.heap.size + 1, 1, none⟩ = some (.int .i64 n) := YA.out.cell 1
    have HTV := Lib.hid (dsk_tng HDV.out)
    by_cases hk : kd = 4 ∧ n = 0
    · obtain ⟨rfl, rfl⟩ := hk
      by_cases h0 : 0 < d.past.length
      · have hg := Lib.hid (hback.out (by simp) (by simp))
        have hbd : Hid (backD d = (⟨d.t, d.past.getD (d.past.length - 1) 0, d.past.take (d.past.length - 1)⟩, true)) := by unfold backD; exact if_pos h0
        obtain ⟨w9a, w9b, w9c, w9d, ee, ht, h5, apb⟩ := OA.out.ex
        cases ee
        obtain ⟨A, c, ee, hi⟩ := h5.ints
        simp only [Value.slice.injEq] at ee
        obtain ⟨rfl, -, rfl⟩ := ee
        obtain ⟨b, o, rfl, hbo, hc⟩ := hi.at_ h0
        have ck := hc (d.past.length - 1) (by omega)
        replace apb := Lib.hid apb
        have hcap := hi.le
        have HTk := Lib.hid (h5.take (d.past.length - 1) (by omega))
        obtain ⟨m, hm⟩ : ∃ m, d.past.length = m + 1 := ⟨d.past.length - 1, by omega⟩
        have hm1 : d.past.length - 1 = m := by omega
        rw [hm1] at ck HTk hbd
        generalize d.past.getD m 0 = x at *
        have hg2 := Lib.hid (hg.out.trans hbd.out)
        have i1 : ((d.past.length : Int) - 1) = (m : Int) := by omega
        have i2 : IntKind.i64.wrap (m : Int) = (m : Int) := IntWalk.i64_in _ (by omega)
        have i4 : (0 : Int) ≤ (m : Int) := by omega
        have i5 : (m : Int) < (d.past.length : Int) := by omega
        have i6 : (m : Int) ≤ (k5 : Int) := by omega
        have i7 : (0 : Int) < (d.past.length : Int) := by omega
        have i8 : decide ((0 : Int) < (d.past.length : Int)) = true := decide_eq_true i7
        have hql := QA.out.lt
        have QB := (QA.out.set_ 3 (.int .i64 x)).set_ 4 (.slice (some ⟨b, o, none⟩) m k5)
        simp at QB
        have ZB := (ZA.out.far (p := ⟨q, 3, none⟩) (by simp; omega) (.int .i64 x)).far (p := ⟨q, 4, none⟩) (by simp; omega) (.slice (some ⟨b, o, none⟩) m k5)
        have TB := (ht.setM (i := 3) (u := .int .i64 x) QA.out).setM (i := 4) (u := .slice (some ⟨b, o, none⟩) m k5) (QA.out.set_ 3 (.int .i64 x))
        have PB := setI (i := 4) (u := .slice (some ⟨b, o, none⟩) m k5) (setI (i := 3) (u := .int .i64 x) HTk.out QA.out) (QA.out.set_ 3 (.int .i64 x))
        have BB := (BA.out.setCell (p := ⟨q, 3, none⟩) (by simp; omega) (.int .i64 x)).setCell (p := ⟨q, 4, none⟩) (by simp; omega) (.slice (some ⟨b, o, none⟩) m k5)
        replace QB := Lib.hid QB
        replace ZB := Lib.hid ZB
        replace TB := Lib.hid TB
        replace PB := Lib.hid PB
        replace BB := Lib.hid BB
        obtain ⟨⟨y0, y1, y2, y3, y4⟩, ⟨f0, f1, f2, f3, f4⟩⟩ := blk5 QA.out
        clear hi hc ht h5 hback hput hbd hg
        go_upto_region 8 with (fail)
        generalize (V.setCell ⟨q, 3, none⟩ (.int .i64 x)).setCell ⟨q, 4, none⟩ (.slice (some ⟨b, o, none⟩) m k5) = V9 at *
        clear x0 x1 x2 x3 x4 y0 y1 y2 y3 y4 f0 f1 f2 f3 f4 ck yc0 yc1
        obtain ⟨⟨x0, x1, x2, x3, x4⟩, -⟩ := blk5 QB.out
        obtain ⟨⟨z0, z1, z2, z3, z4⟩, ⟨e0, e1, e2, e3, e4⟩⟩ := blk5 ZB.out
        have MD : MDk V9 w1.heap.size (.agg #[.slice X1 d.t.us.length k1, .slice X2 d.t.bs.length k2, .slice X3 d.t.ns.length k3, .int .i64 x, .slice (some ⟨b, o, none⟩) m k5]) ⟨d.t, x, d.past.take m⟩ := ⟨_, _, _, _, rfl, TB.out, OwnI.tail PB.out⟩
        have WD : WDk V9 w1.heap.size (.agg #[.slice X1 d.t.us.length k1, .slice X2 d.t.bs.length k2, .slice X3 d.t.ns.length k3, .int .i64 x, .slice (some ⟨b, o, none⟩) m k5]) ⟨d.t, x, d.past.take m⟩ := ⟨_, _, _, _, rfl, TB.out, PB.out, apb.out⟩
        have hg := hg2
        clear hg2
        have HW := fun u0 u1 u2 u3 u4 => (own_wd5 (u0 := u0) (u1 := u1) (u2 := u2) (u3 := u3) (u4 := u4) WD ZB.out).mono (B' := w.heap.size) (by omega)
        replace HW := Lib.hid HW
        have HF := fun u0 u1 u2 u3 u4 => (own_md5 (u0 := u0) (u1 := u1) (u2 := u2) (u3 := u3) (u4 := u4) MD ZB.out).mono (B' := w.heap.size) (by omega)
        have HG := fun u0 u1 u2 u3 u4 => below_dk5 (u0 := u0) (u1 := u1) (u2 := u2) (u3 := u3) (u4 := u4) (g := w.heap.size + 2) BB.out (by omega)
        replace HF := Lib.hid HF
        replace HG := Lib.hid HG
        clear MD WD QB ZB TB PB BB XA YA ZA QA OA BA HDV HTV HTk
        go_wp2
        refine bodyPost_ret (v := .tuple #[.agg #[.slice X1 d.t.us.length k1, .slice X2 d.t.bs.length k2, .slice X3 d.t.ns.length k3, .int .i64 x, .slice (some ⟨b, o, none⟩) m k5], .bool true]) (by simp [results, Try.results15, go_sem, z0, z1, z2, z3, z4]) rfl ?_
        rw [hg.out]
        exact ⟨_, rfl, HF.out _ _ _ _ _, (fun _ => HW.out _ _ _ _ _), HG.out _ _ _ _ _⟩
      · have hn0 : d.past.length = 0 := by omega
        have i8 : decide ((0 : Int) < (d.past.length : Int)) = false := decide_eq_false (by omega)
        have i7 : ¬ ((0 : Int) < (d.past.length : Int)) := by omega
        have hgen : Hid (dkDo d ⟨4, 0⟩ = putD d (madeOf d ⟨4, 0⟩)) := (hback.out (by simp) (by simp)).trans (back_put d h0)
        replace hn0 := Lib.hid hn0
        clear hback hput
        have hz0 := Lib.hid (show namedB d.t (madeOf d ⟨4, 0⟩) = false from named_off (by have e : madeOf d ⟨4, 0⟩ = 0 := (by unfold madeOf; rw [if_neg (by dsimp only; omega), if_neg (by dsimp only; omega)]); rw [e]; omega))
        have hdo := Lib.hid (hgen.out : dkDo d ⟨4, 0⟩ = putD d (madeOf d ⟨4, 0⟩))
        have K3 := Lib.hid (specMade_any _ d ⟨4, 0⟩ V HDV.out hff.out hnow)
        have hbd := made_bd d ⟨4, 0⟩ hnb.out
        generalize madeOf d ⟨4, 0⟩ = m at *
        have hno := Lib.hid (put_no (d := d) (m := m))
        have hyes := Lib.hid (put_yes (d := d) (m := m))
        clear hgen
        go_wp2_with (fail)
        refine K3.out.mono ?_
        rintro e V1 ⟨rfl, b1⟩
        have XA1 := XA.out.below b1 XA.out.lt
        have ZA1 := ZA.out.below b1 ZA.out.lt
        have QA1 := QA.out.below b1 QA.out.lt
        have OA1 := OA.out.below b1 (Nat.le_refl _)
        have BA1 := BA.out.trans (b1.mono BA.out.size)
        have HT1 := HTV.out.below b1 (Nat.le_refl _)
        have hz1 := b1.size
        have hql := QA.out.lt
        have K5 := Lib.hid (specNameOf_any _ d.t m V1 HT1 hff.out.t (by omega))
        replace XA1 := Lib.hid XA1
        replace ZA1 := Lib.hid ZA1
        replace QA1 := Lib.hid QA1
        replace OA1 := Lib.hid OA1
        replace BA1 := Lib.hid BA1
        clear b1 x0 x1 x2 x3 x4 yc0 yc1 K3 XA YA ZA QA OA BA HDV HTV HT1
        obtain ⟨⟨x0, x1, x2, x3, x4⟩, -⟩ := blk5 XA1.out
        generalize hmb : namedB d.t m = mb at *
        generalize nameOf d.t m = xs at *
        replace hmb := Lib.hid hmb
        go_wp2_with (fail)
        refine K5.out.mono ?_
        rintro e V2 ⟨v2, rfl, -, b2⟩
        have XA2 := XA1.out.below b2 XA1.out.lt
        have ZA2 := ZA1.out.below b2 ZA1.out.lt
        have QA2 := QA1.out.below b2 QA1.out.lt
        have OA2 := OA1.out.below b2 (Nat.le_refl _)
        have BA2 := BA1.out.trans (b2.mono BA1.out.size)
        have hz2 := b2.size
        replace XA2 := Lib.hid XA2
        replace ZA2 := Lib.hid ZA2
        replace QA2 := Lib.hid QA2
        replace OA2 := Lib.hid OA2
        replace BA2 := Lib.hid BA2
        clear b2 x0 x1 x2 x3 x4 K5 XA1 ZA1 QA1 OA1 BA1
        obtain ⟨⟨x0, x1, x2, x3, x4⟩, -⟩ := blk5 XA2.out
        obtain ⟨⟨y0, y1, y2, y3, y4⟩, ⟨f0, f1, f2, f3, f4⟩⟩ := blk5 QA2.out
        obtain ⟨⟨z0, z1, z2, z3, z4⟩, ⟨e0, e1, e2, e3, e4⟩⟩ := blk5 ZA2.out
        cases mb
        · have hg := Lib.hid (hdo.out.trans (hno.out (fun hh => absurd hh.1 (by simp))))
          have HW := fun u0 u1 u2 u3 u4 => (own_wd5 (u0 := u0) (u1 := u1) (u2 := u2) (u3 := u3) (u4 := u4) OA2.out.whole ZA2.out).mono (B' := w.heap.size) (by omega)
          replace HW := Lib.hid HW
          have HF := fun u0 u1 u2 u3 u4 => (own_md5 (u0 := u0) (u1 := u1) (u2 := u2) (u3 := u3) (u4 := u4) OA2.out.m ZA2.out).mono (B' := w.heap.size) (by omega)
          have HG := fun u0 u1 u2 u3 u4 => below_dk5 (u0 := u0) (u1 := u1) (u2 := u2) (u3 := u3) (u4 := u4) (g := w.heap.size + 2) BA2.out (by omega)
          replace HF := Lib.hid HF
          replace HG := Lib.hid HG
          clear XA2 ZA2 QA2 OA2 BA2 hno hyes
          go_wp2
          refine bodyPost_ret (v := .tuple #[.agg #[.slice X1 d.t.us.length k1, .slice X2 d.t.bs.length k2, .slice X3 d.t.ns.length k3, .int .i64 d.now, .slice X5 d.past.length k5], .bool false]) (by simp [results, Try.results15, go_sem, z0, z1, z2, z3, z4]) rfl ?_
          rw [hg.out]
          exact ⟨_, rfl, HF.out _ _ _ _ _, (fun _ => HW.out _ _ _ _ _), HG.out _ _ _ _ _⟩
        · exact absurd hz0.out (by simp)
    · by_cases e4 : kd = 4
      · subst e4
        have hn0 : ¬ n = 0 := fun e => hk ⟨rfl, e⟩
        have hn1 : (n == 0) = false := by simpa using hn0
        have hgen := Lib.hid (hput.out (by simp) hk)
        clear hback hput
        have hdo := Lib.hid (hgen.out : dkDo d ⟨4, n⟩ = putD d (madeOf d ⟨4, n⟩))
        have K3 := Lib.hid (specMade_any _ d ⟨4, n⟩ V HDV.out hff.out hnow)
        have hbd := made_bd d ⟨4, n⟩ hnb.out
        generalize madeOf d ⟨4, n⟩ = m at *
        have hno := Lib.hid (put_no (d := d) (m := m))
        have hyes := Lib.hid (put_yes (d := d) (m := m))
        clear hgen
        go_wp2_with (fail)
        refine K3.out.mono ?_
        rintro e V1 ⟨rfl, b1⟩
        have XA1 := XA.out.below b1 XA.out.lt
        have ZA1 := ZA.out.below b1 ZA.out.lt
        have QA1 := QA.out.below b1 QA.out.lt
        have OA1 := OA.out.below b1 (Nat.le_refl _)
        have BA1 := BA.out.trans (b1.mono BA.out.size)
        have HT1 := HTV.out.below b1 (Nat.le_refl _)
        have hz1 := b1.size
        have hql := QA.out.lt
        have K5 := Lib.hid (specNameOf_any _ d.t m V1 HT1 hff.out.t (by omega))
        replace XA1 := Lib.hid XA1
        replace ZA1 := Lib.hid ZA1
        replace QA1 := Lib.hid QA1
        replace OA1 := Lib.hid OA1
        replace BA1 := Lib.hid BA1
        clear b1 x0 x1 x2 x3 x4 yc0 yc1 K3 XA YA ZA QA OA BA HDV HTV HT1
        obtain ⟨⟨x0, x1, x2, x3, x4⟩, -⟩ := blk5 XA1.out
        generalize hmb : namedB d.t m = mb at *
        generalize nameOf d.t m = xs at *
        replace hmb := Lib.hid hmb
        go_wp2_with (fail)
        refine K5.out.mono ?_
        rintro e V2 ⟨v2, rfl, -, b2⟩
        have XA2 := XA1.out.below b2 XA1.out.lt
        have ZA2 := ZA1.out.below b2 ZA1.out.lt
        have QA2 := QA1.out.below b2 QA1.out.lt
        have OA2 := OA1.out.below b2 (Nat.le_refl _)
        have BA2 := BA1.out.trans (b2.mono BA1.out.size)
        have hz2 := b2.size
        replace XA2 := Lib.hid XA2
        replace ZA2 := Lib.hid ZA2
        replace QA2 := Lib.hid QA2
        replace OA2 := Lib.hid OA2
        replace BA2 := Lib.hid BA2
        clear b2 x0 x1 x2 x3 x4 K5 XA1 ZA1 QA1 OA1 BA1
        obtain ⟨⟨x0, x1, x2, x3, x4⟩, -⟩ := blk5 XA2.out
        obtain ⟨⟨y0, y1, y2, y3, y4⟩, ⟨f0, f1, f2, f3, f4⟩⟩ := blk5 QA2.out
        obtain ⟨⟨z0, z1, z2, z3, z4⟩, ⟨e0, e1, e2, e3, e4⟩⟩ := blk5 ZA2.out
        cases mb
        · have hg := Lib.hid (hdo.out.trans (hno.out (fun hh => absurd hh.1 (by simp))))
          have HW := fun u0 u1 u2 u3 u4 => (own_wd5 (u0 := u0) (u1 := u1) (u2 := u2) (u3 := u3) (u4 := u4) OA2.out.whole ZA2.out).mono (B' := w.heap.size) (by omega)
          replace HW := Lib.hid HW
          have HF := fun u0 u1 u2 u3 u4 => (own_md5 (u0 := u0) (u1 := u1) (u2 := u2) (u3 := u3) (u4 := u4) OA2.out.m ZA2.out).mono (B' := w.heap.size) (by omega)
          have HG := fun u0 u1 u2 u3 u4 => below_dk5 (u0 := u0) (u1 := u1) (u2 := u2) (u3 := u3) (u4 := u4) (g := w.heap.size + 2) BA2.out (by omega)
          replace HF := Lib.hid HF
          replace HG := Lib.hid HG
          clear XA2 ZA2 QA2 OA2 BA2 hno hyes
          go_wp2
          refine bodyPost_ret (v := .tuple #[.agg #[.slice X1 d.t.us.length k1, .slice X2 d.t.bs.length k2, .slice X3 d.t.ns.length k3, .int .i64 d.now, .slice X5 d.past.length k5], .bool false]) (by simp [results, Try.results15, go_sem, z0, z1, z2, z3, z4]) rfl ?_
          rw [hg.out]
          exact ⟨_, rfl, HF.out _ _ _ _ _, (fun _ => HW.out _ _ _ _ _), HG.out _ _ _ _ _⟩
        · by_cases hmn : m = d.now
          · have hg := Lib.hid (hdo.out.trans (hno.out (fun hh => hh.2 hmn)))
            have hmq : (m == d.now) = true := by simpa using hmn
            subst hmn
            have HW := fun u0 u1 u2 u3 u4 => (own_wd5 (u0 := u0) (u1 := u1) (u2 := u2) (u3 := u3) (u4 := u4) OA2.out.whole ZA2.out).mono (B' := w.heap.size) (by omega)
            replace HW := Lib.hid HW
            have HF := fun u0 u1 u2 u3 u4 => (own_md5 (u0 := u0) (u1 := u1) (u2 := u2) (u3 := u3) (u4 := u4) OA2.out.m ZA2.out).mono (B' := w.heap.size) (by omega)
            have HG := fun u0 u1 u2 u3 u4 => below_dk5 (u0 := u0) (u1 := u1) (u2 := u2) (u3 := u3) (u4 := u4) (g := w.heap.size + 2) BA2.out (by omega)
            replace HF := Lib.hid HF
            replace HG := Lib.hid HG
            clear XA2 ZA2 QA2 OA2 BA2 hno hyes
            go_wp2
            refine bodyPost_ret (v := .tuple #[.agg #[.slice X1 d.t.us.length k1, .slice X2 d.t.bs.length k2, .slice X3 d.t.ns.length k3, .int .i64 d.now, .slice X5 d.past.length k5], .bool false]) (by simp [results, Try.results15, go_sem, z0, z1, z2, z3, z4]) rfl ?_
            rw [hg.out]
            exact ⟨_, rfl, HF.out _ _ _ _ _, (fun _ => HW.out _ _ _ _ _), HG.out _ _ _ _ _⟩
          · have hg := Lib.hid (hdo.out.trans (hyes.out ⟨rfl, hmn⟩))
            have hmq : (m == d.now) = false := by simpa using hmn
            obtain ⟨ii0, hii, hzi0, hzi1, hzi2⟩ := info_parts int_info0
            obtain ⟨w9a, w9b, w9c, w9d, ee, ht, h5, ap⟩ := OA2.out.ex
            cases ee
            have hA := (Below.refl V2.heap.size V2).alloc (Nat.le_refl _) (.cells #[.int .i64 d.now] 3)
            have hL : Blk (V2.alloc (.cells #[.int .i64 d.now] 3)) V2.heap.size 3 #[.int .i64 d.now] := Blk.new _ _ _
            have BA3 := BA2.out.trans (hA.mono BA2.out.size)
            have QA3 := QA2.out.below hA QA2.out.lt
            have ZA3 := ZA2.out.below hA ZA2.out.lt
            have TA3 := ht.below hA (Nat.le_refl _)
            have H52 := h5.below hA (Nat.le_refl _)
            have hsz2 : (V2.alloc (.cells #[.int .i64 d.now] 3)).heap.size = V2.heap.size + 1 := by simp
            replace hL := Lib.hid (Src.one hL rfl)
            replace BA3 := Lib.hid BA3
            replace QA3 := Lib.hid QA3
            replace ZA3 := Lib.hid ZA3
            replace TA3 := Lib.hid TA3
            replace H52 := Lib.hid H52
            replace ap := Lib.hid ap
            have k1' := Lib.hid (show d.past.length + 1 ≤ maxLen by unfold maxLen; omega)
            have k2' := Lib.hid (show (d.past.length + 1) * 8 ≤ 140737488355328 by omega)
            have k3' := Lib.hid (show w1.heap.size ≤ (V2.alloc (.cells #[.int .i64 d.now] 3)).heap.size by rw [hsz2]; omega)
            have hql2 := QA2.out.lt
            replace hsz2 := Lib.hid hsz2
            clear hA ht h5 hno hyes hmb XA2 QA2 ZA2 OA2 BA2 z0 z1 z2 z3 z4 e0 e1 e2 e3 e4
            go_wp2_with (at_builtin; refine wpList_app _ rfl (.tmp 62) (.tmp 65) _ rfl w1.heap.size 3 ii0 _ 8 Try.underlying24 hii hzi0 hzi1 hzi2 rfl (.slice X5 d.past.length k5) d.past.length (d.past.map (Value.int .i64)) rfl H52.out (some ⟨V2.heap.size, 0, none⟩) 1 1 _ rfl hL.out k1'.out k2'.out k3'.out ?_; intro v6 w6 ho6 hg6 hat6; refine Hid.out ?_)
            obtain ⟨g6, c6, rfl, hg6B, hg6w⟩ := World.ownsRow.form ho6 (by omega)
            replace QA3 := Lib.hid (QA3.out.grown hg6 (fun e => own_blk_ne H52.out QA3.out (by decide) e.symm))
            replace ZA3 := Lib.hid (ZA3.out.grown hg6 (fun e => own_blk_ne H52.out ZA3.out (by decide) e.symm))
            have hB3 : Below w.heap.size w w6 := below_own BA3.out H52.out hg6 BA3.out.size (by omega)
            have TA4 : LTng w6 w1.heap.size (.agg #[.slice X1 d.t.us.length k1, .slice X2 d.t.bs.length k2, .slice X3 d.t.ns.length k3]) d.t := by
              obtain ⟨y1, y2, y3, ee, o1, o2, o3⟩ := TA3.out.ex
              cases ee
              exact ⟨_, _, _, rfl, own_offM o1 hg6 (fun k hk e => own_type_ne o1 H52.out (by decide) k hk e), own_offM o2 hg6 (fun k hk e => ap.out k hk e), own_offM o3 hg6 (fun k hk e => own_type_ne o3 H52.out (by decide) k hk e)⟩
            have H53 : OwnI w6 w1.heap.size (.slice (some ⟨g6, 0, none⟩) (d.past.length + 1) c6) (d.past ++ [d.now]) := by
              unfold OwnI
              rw [List.length_append, List.length_singleton, List.map_append]
              exact ho6
            have hc6 : d.past.length + 1 ≤ c6 := by
              obtain ⟨A, c, ee, hii2⟩ := H53.ints
              simp only [Value.slice.injEq] at ee
              obtain ⟨rfl, -, rfl⟩ := ee
              have := hii2.le
              rw [List.length_append, List.length_singleton] at this; exact this
            have ap6 : ∀ k, (Value.slice X2 d.t.bs.length k2).ownBlock = some k → some g6 ≠ some k := by
              obtain ⟨y1, y2, y3, ee, o1, o2, o3⟩ := TA3.out.ex
              cases ee
              intro k hk e
              rcases hat6 with h1 | h1
              · exact ap.out k hk (h1.symm.trans e)
              · have h2 := (o2.lt k hk).2
                have h3 : some g6 = some _ := h1
                rw [h3] at e
                cases e
                omega
            replace ap6 := Lib.hid ap6
            have hszw := hB3.size
            have hqw := QA3.out.lt
            replace TA3 := Lib.hid TA4
            replace H53 := Lib.hid H53
            replace BA3 := Lib.hid hB3
            clear TA4 hB3 ho6 hg6 hat6 H52 hL ap x0 x1 x2 x3 x4 y0 y1 y2 y3 y4 f0 f1 f2 f3 f4
            obtain ⟨⟨x0, x1, x2, x3, x4⟩, ⟨f0, f1, f2, f3, f4⟩⟩ := blk5 QA3.out
            have q4 : ((d.past.length + 1 : Nat) : Int) = (d.past.length : Int) + 1 := by omega
            by_cases h8 : d.past.length = 8
            · have g4 : (8 : Int) < (d.past.length : Int) + 1 := by omega
              have g5 : decide ((8 : Int) < (d.past.length : Int) + 1) = true := decide_eq_true g4
              have g6' : (1 : Int) ≤ (c6 : Int) := by omega
              have g7 : (1 : Int) ≤ (d.past.length : Int) + 1 := by omega
              have g8 : (d.past.length : Int) + 1 ≤ (c6 : Int) := by omega
              have g9 : ¬ c6 = 1 := by omega
              have g10 : d.past.length + 1 - 1 = d.past.length := by omega
              replace h8 := Lib.hid h8
              have QB := (((QA3.out.set_ 4 (.slice (some ⟨g6, 0, none⟩) (d.past.length + 1) c6)).set_ 4 (.slice (some ⟨g6, 1, none⟩) d.past.length (c6 - 1))).set_ 3 (.int .i64 m))
              simp at QB
              have ZB := (((ZA3.out.far (p := ⟨q, 4, none⟩) (by dsimp only; omega) (.slice (some ⟨g6, 0, none⟩) (d.past.length + 1) c6)).far (p := ⟨q, 4, none⟩) (by dsimp only; omega) (.slice (some ⟨g6, 1, none⟩) d.past.length (c6 - 1))).far (p := ⟨q, 3, none⟩) (by dsimp only; omega) (.int .i64 m))
              have TB := (((TA3.out.setM (i := 4) (u := .slice (some ⟨g6, 0, none⟩) (d.past.length + 1) c6) QA3.out).setM (i := 4) (u := .slice (some ⟨g6, 1, none⟩) d.past.length (c6 - 1)) (QA3.out.set_ 4 (.slice (some ⟨g6, 0, none⟩) (d.past.length + 1) c6))).setM (i := 3) (u := .int .i64 m) ((QA3.out.set_ 4 (.slice (some ⟨g6, 0, none⟩) (d.past.length + 1) c6)).set_ 4 (.slice (some ⟨g6, 1, none⟩) d.past.length (c6 - 1))))
              have PB := (setI (i := 3) (u := .int .i64 m) (setI (i := 4) (u := .slice (some ⟨g6, 1, none⟩) d.past.length (c6 - 1)) (setI (i := 4) (u := .slice (some ⟨g6, 0, none⟩) (d.past.length + 1) c6) H53.out QA3.out) (QA3.out.set_ 4 (.slice (some ⟨g6, 0, none⟩) (d.past.length + 1) c6))) ((QA3.out.set_ 4 (.slice (some ⟨g6, 0, none⟩) (d.past.length + 1) c6)).set_ 4 (.slice (some ⟨g6, 1, none⟩) d.past.length (c6 - 1))))
              have BB := (((BA3.out.setCell (p := ⟨q, 4, none⟩) (by simp; omega) (.slice (some ⟨g6, 0, none⟩) (d.past.length + 1) c6)).setCell (p := ⟨q, 4, none⟩) (by simp; omega) (.slice (some ⟨g6, 1, none⟩) d.past.length (c6 - 1))).setCell (p := ⟨q, 3, none⟩) (by simp; omega) (.int .i64 m))
              replace QB := Lib.hid QB
              replace ZB := Lib.hid ZB
              replace TB := Lib.hid TB
              replace PB := Lib.hid PB
              replace BB := Lib.hid BB
              clear QA3 ZA3 TA3 H53 BA3
              refine Lib.hid ?_
              go_upto_region 17 with (fail)
              generalize (((w6.setCell ⟨q, 4, none⟩ (.slice (some ⟨g6, 0, none⟩) (d.past.length + 1) c6)).setCell ⟨q, 4, none⟩ (.slice (some ⟨g6, 1, none⟩) d.past.length (c6 - 1))).setCell ⟨q, 3, none⟩ (.int .i64 m)) = V9 at *
              clear x0 x1 x2 x3 x4 f0 f1 f2 f3 f4
              obtain ⟨⟨x0, x1, x2, x3, x4⟩, -⟩ := blk5 QB.out
              obtain ⟨⟨z0, z1, z2, z3, z4⟩, ⟨e0, e1, e2, e3, e4⟩⟩ := blk5 ZB.out
              have hxl : ((d.past ++ [d.now]).drop (d.past.length + 1 - 8)).length = d.past.length := by have h8' := h8.out; rw [List.length_drop, List.length_append, List.length_singleton]; omega
              have PT : TailI V9 w1.heap.size (.slice (some ⟨g6, 1, none⟩) d.past.length (c6 - 1)) ((d.past ++ [d.now]).drop (d.past.length + 1 - 8)) := tail_one h8.out (by omega) PB.out
              have MD : MDk V9 w1.heap.size (.agg #[.slice X1 d.t.us.length k1, .slice X2 d.t.bs.length k2, .slice X3 d.t.ns.length k3, .int .i64 m, .slice (some ⟨g6, 1, none⟩) d.past.length (c6 - 1)]) ⟨d.t, m, (d.past ++ [d.now]).drop (d.past.length + 1 - 8)⟩ := ⟨_, _, _, _, rfl, TB.out, PT⟩
              clear PT hxl
              have HF := fun u0 u1 u2 u3 u4 => (own_md5 (u0 := u0) (u1 := u1) (u2 := u2) (u3 := u3) (u4 := u4) MD ZB.out).mono (B' := w.heap.size) (by omega)
              have HG := fun u0 u1 u2 u3 u4 => below_dk5 (u0 := u0) (u1 := u1) (u2 := u2) (u3 := u3) (u4 := u4) (g := w.heap.size + 2) BB.out (by omega)
              replace HF := Lib.hid HF
              replace HG := Lib.hid HG
              clear MD QB ZB TB PB BB
              go_wp2
              refine bodyPost_ret (v := .tuple #[.agg #[.slice X1 d.t.us.length k1, .slice X2 d.t.bs.length k2, .slice X3 d.t.ns.length k3, .int .i64 m, .slice (some ⟨g6, 1, none⟩) d.past.length (c6 - 1)], .bool true]) (by simp [results, Try.results15, go_sem, z0, z1, z2, z3, z4]) rfl ?_
              rw [hg.out]
              exact ⟨_, rfl, HF.out _ _ _ _ _, (fun h7 => absurd h7 (by have := h8.out; omega)), HG.out _ _ _ _ _⟩
            · have g3 : ((d.past.length : Int) + 1 ≤ 8) := by omega
              have g4 : ¬ ((8 : Int) < (d.past.length : Int) + 1) := by omega
              have g5 : decide ((8 : Int) < (d.past.length : Int) + 1) = false := decide_eq_false g4
              have QB := ((QA3.out.set_ 4 (.slice (some ⟨g6, 0, none⟩) (d.past.length + 1) c6)).set_ 3 (.int .i64 m))
              simp at QB
              have ZB := ((ZA3.out.far (p := ⟨q, 4, none⟩) (by dsimp only; omega) (.slice (some ⟨g6, 0, none⟩) (d.past.length + 1) c6)).far (p := ⟨q, 3, none⟩) (by dsimp only; omega) (.int .i64 m))
              have TB := ((TA3.out.setM (i := 4) (u := .slice (some ⟨g6, 0, none⟩) (d.past.length + 1) c6) QA3.out).setM (i := 3) (u := .int .i64 m) (QA3.out.set_ 4 (.slice (some ⟨g6, 0, none⟩) (d.past.length + 1) c6)))
              have PB := (setI (i := 3) (u := .int .i64 m) (setI (i := 4) (u := .slice (some ⟨g6, 0, none⟩) (d.past.length + 1) c6) H53.out QA3.out) (QA3.out.set_ 4 (.slice (some ⟨g6, 0, none⟩) (d.past.length + 1) c6)))
              have BB := ((BA3.out.setCell (p := ⟨q, 4, none⟩) (by simp; omega) (.slice (some ⟨g6, 0, none⟩) (d.past.length + 1) c6)).setCell (p := ⟨q, 3, none⟩) (by simp; omega) (.int .i64 m))
              replace QB := Lib.hid QB
              replace ZB := Lib.hid ZB
              replace TB := Lib.hid TB
              replace PB := Lib.hid PB
              replace BB := Lib.hid BB
              clear QA3 ZA3 TA3 H53 BA3
              refine Lib.hid ?_
              go_upto_region 17 with (fail)
              generalize ((w6.setCell ⟨q, 4, none⟩ (.slice (some ⟨g6, 0, none⟩) (d.past.length + 1) c6)).setCell ⟨q, 3, none⟩ (.int .i64 m)) = V9 at *
              clear x0 x1 x2 x3 x4 f0 f1 f2 f3 f4
              obtain ⟨⟨x0, x1, x2, x3, x4⟩, -⟩ := blk5 QB.out
              obtain ⟨⟨z0, z1, z2, z3, z4⟩, ⟨e0, e1, e2, e3, e4⟩⟩ := blk5 ZB.out
              have hxd : (d.past ++ [d.now]).drop (d.past.length + 1 - 8) = d.past ++ [d.now] := by rw [show d.past.length + 1 - 8 = 0 by omega]; rfl
              have MD : MDk V9 w1.heap.size (.agg #[.slice X1 d.t.us.length k1, .slice X2 d.t.bs.length k2, .slice X3 d.t.ns.length k3, .int .i64 m, .slice (some ⟨g6, 0, none⟩) (d.past.length + 1) c6]) ⟨d.t, m, (d.past ++ [d.now]).drop (d.past.length + 1 - 8)⟩ := ⟨_, _, _, _, rfl, TB.out, by show TailI _ _ _ (List.drop _ _); rw [hxd]; exact OwnI.tail PB.out⟩
              have WD : WDk V9 w1.heap.size (.agg #[.slice X1 d.t.us.length k1, .slice X2 d.t.bs.length k2, .slice X3 d.t.ns.length k3, .int .i64 m, .slice (some ⟨g6, 0, none⟩) (d.past.length + 1) c6]) ⟨d.t, m, (d.past ++ [d.now]).drop (d.past.length + 1 - 8)⟩ := ⟨_, _, _, _, rfl, TB.out, by show OwnI _ _ _ (List.drop _ _); rw [hxd]; exact PB.out, ap6.out⟩
              clear hxd
              have HW := fun u0 u1 u2 u3 u4 => (own_wd5 (u0 := u0) (u1 := u1) (u2 := u2) (u3 := u3) (u4 := u4) WD ZB.out).mono (B' := w.heap.size) (by omega)
              replace HW := Lib.hid HW
              have HF := fun u0 u1 u2 u3 u4 => (own_md5 (u0 := u0) (u1 := u1) (u2 := u2) (u3 := u3) (u4 := u4) MD ZB.out).mono (B' := w.heap.size) (by omega)
              have HG := fun u0 u1 u2 u3 u4 => below_dk5 (u0 := u0) (u1 := u1) (u2 := u2) (u3 := u3) (u4 := u4) (g := w.heap.size + 2) BB.out (by omega)
              replace HF := Lib.hid HF
              replace HG := Lib.hid HG
              clear MD WD QB ZB TB PB BB
              go_wp2
              refine bodyPost_ret (v := .tuple #[.agg #[.slice X1 d.t.us.length k1, .slice X2 d.t.bs.length k2, .slice X3 d.t.ns.length k3, .int .i64 m, .slice (some ⟨g6, 0, none⟩) (d.past.length + 1) c6], .bool true]) (by simp [results, Try.results15, go_sem, z0, z1, z2, z3, z4]) rfl ?_
              rw [hg.out]
              exact ⟨_, rfl, HF.out _ _ _ _ _, (fun _ => HW.out _ _ _ _ _), HG.out _ _ _ _ _⟩
      · have q4 : (kd == 4) = false := by simpa using e4
        have hgen := Lib.hid (hput.out (by simp) hk)
        clear hback hput
        have hdo := Lib.hid (hgen.out : dkDo d ⟨kd, n⟩ = putD d (madeOf d ⟨kd, n⟩))
        have K3 := Lib.hid (specMade_any _ d ⟨kd, n⟩ V HDV.out hff.out hnow)
        have hbd := made_bd d ⟨kd, n⟩ hnb.out
        generalize madeOf d ⟨kd, n⟩ = m at *
        have hno := Lib.hid (put_no (d := d) (m := m))
        have hyes := Lib.hid (put_yes (d := d) (m := m))
        clear hgen
        go_wp2_with (fail)
        refine K3.out.mono ?_
        rintro e V1 ⟨rfl, b1⟩
        have XA1 := XA.out.below b1 XA.out.lt
        have ZA1 := ZA.out.below b1 ZA.out.lt
        have QA1 := QA.out.below b1 QA.out.lt
        have OA1 := OA.out.below b1 (Nat.le_refl _)
        have BA1 := BA.out.trans (b1.mono BA.out.size)
        have HT1 := HTV.out.below b1 (Nat.le_refl _)
        have hz1 := b1.size
        have hql := QA.out.lt
        have K5 := Lib.hid (specNameOf_any _ d.t m V1 HT1 hff.out.t (by omega))
        replace XA1 := Lib.hid XA1
        replace ZA1 := Lib.hid ZA1
        replace QA1 := Lib.hid QA1
        replace OA1 := Lib.hid OA1
        replace BA1 := Lib.hid BA1
        clear b1 x0 x1 x2 x3 x4 yc0 yc1 K3 XA YA ZA QA OA BA HDV HTV HT1
        obtain ⟨⟨x0, x1, x2, x3, x4⟩, -⟩ := blk5 XA1.out
        generalize hmb : namedB d.t m = mb at *
        generalize nameOf d.t m = xs at *
        replace hmb := Lib.hid hmb
        go_wp2_with (fail)
        refine K5.out.mono ?_
        rintro e V2 ⟨v2, rfl, -, b2⟩
        have XA2 := XA1.out.below b2 XA1.out.lt
        have ZA2 := ZA1.out.below b2 ZA1.out.lt
        have QA2 := QA1.out.below b2 QA1.out.lt
        have OA2 := OA1.out.below b2 (Nat.le_refl _)
        have BA2 := BA1.out.trans (b2.mono BA1.out.size)
        have hz2 := b2.size
        replace XA2 := Lib.hid XA2
        replace ZA2 := Lib.hid ZA2
        replace QA2 := Lib.hid QA2
        replace OA2 := Lib.hid OA2
        replace BA2 := Lib.hid BA2
        clear b2 x0 x1 x2 x3 x4 K5 XA1 ZA1 QA1 OA1 BA1
        obtain ⟨⟨x0, x1, x2, x3, x4⟩, -⟩ := blk5 XA2.out
        obtain ⟨⟨y0, y1, y2, y3, y4⟩, ⟨f0, f1, f2, f3, f4⟩⟩ := blk5 QA2.out
        obtain ⟨⟨z0, z1, z2, z3, z4⟩, ⟨e0, e1, e2, e3, e4⟩⟩ := blk5 ZA2.out
        cases mb
        · have hg := Lib.hid (hdo.out.trans (hno.out (fun hh => absurd hh.1 (by simp))))
          have HW := fun u0 u1 u2 u3 u4 => (own_wd5 (u0 := u0) (u1 := u1) (u2 := u2) (u3 := u3) (u4 := u4) OA2.out.whole ZA2.out).mono (B' := w.heap.size) (by omega)
          replace HW := Lib.hid HW
          have HF := fun u0 u1 u2 u3 u4 => (own_md5 (u0 := u0) (u1 := u1) (u2 := u2) (u3 := u3) (u4 := u4) OA2.out.m ZA2.out).mono (B' := w.heap.size) (by omega)
          have HG := fun u0 u1 u2 u3 u4 => below_dk5 (u0 := u0) (u1 := u1) (u2 := u2) (u3 := u3) (u4 := u4) (g := w.heap.size + 2) BA2.out (by omega)
          replace HF := Lib.hid HF
          replace HG := Lib.hid HG
          clear XA2 ZA2 QA2 OA2 BA2 hno hyes
          go_wp2
          refine bodyPost_ret (v := .tuple #[.agg #[.slice X1 d.t.us.length k1, .slice X2 d.t.bs.length k2, .slice X3 d.t.ns.length k3, .int .i64 d.now, .slice X5 d.past.length k5], .bool false]) (by simp [results, Try.results15, go_sem, z0, z1, z2, z3, z4]) rfl ?_
          rw [hg.out]
          exact ⟨_, rfl, HF.out _ _ _ _ _, (fun _ => HW.out _ _ _ _ _), HG.out _ _ _ _ _⟩
        · by_cases hmn : m = d.now
          · have hg := Lib.hid (hdo.out.trans (hno.out (fun hh => hh.2 hmn)))
            have hmq : (m == d.now) = true := by simpa using hmn
            subst hmn
            have HW := fun u0 u1 u2 u3 u4 => (own_wd5 (u0 := u0) (u1 := u1) (u2 := u2) (u3 := u3) (u4 := u4) OA2.out.whole ZA2.out).mono (B' := w.heap.size) (by omega)
            replace HW := Lib.hid HW
            have HF := fun u0 u1 u2 u3 u4 => (own_md5 (u0 := u0) (u1 := u1) (u2 := u2) (u3 := u3) (u4 := u4) OA2.out.m ZA2.out).mono (B' := w.heap.size) (by omega)
            have HG := fun u0 u1 u2 u3 u4 => below_dk5 (u0 := u0) (u1 := u1) (u2 := u2) (u3 := u3) (u4 := u4) (g := w.heap.size + 2) BA2.out (by omega)
            replace HF := Lib.hid HF
            replace HG := Lib.hid HG
            clear XA2 ZA2 QA2 OA2 BA2 hno hyes
            go_wp2
            refine bodyPost_ret (v := .tuple #[.agg #[.slice X1 d.t.us.length k1, .slice X2 d.t.bs.length k2, .slice X3 d.t.ns.length k3, .int .i64 d.now, .slice X5 d.past.length k5], .bool false]) (by simp [results, Try.results15, go_sem, z0, z1, z2, z3, z4]) rfl ?_
            rw [hg.out]
            exact ⟨_, rfl, HF.out _ _ _ _ _, (fun _ => HW.out _ _ _ _ _), HG.out _ _ _ _ _⟩
          · have hg := Lib.hid (hdo.out.trans (hyes.out ⟨rfl, hmn⟩))
            have hmq : (m == d.now) = false := by simpa using hmn
            obtain ⟨ii0, hii, hzi0, hzi1, hzi2⟩ := info_parts int_info0
            obtain ⟨w9a, w9b, w9c, w9d, ee, ht, h5, ap⟩ := OA2.out.ex
            cases ee
            have hA := (Below.refl V2.heap.size V2).alloc (Nat.le_refl _) (.cells #[.int .i64 d.now] 3)
            have hL : Blk (V2.alloc (.cells #[.int .i64 d.now] 3)) V2.heap.size 3 #[.int .i64 d.now] := Blk.new _ _ _
            have BA3 := BA2.out.trans (hA.mono BA2.out.size)
            have QA3 := QA2.out.below hA QA2.out.lt
            have ZA3 := ZA2.out.below hA ZA2.out.lt
            have TA3 := ht.below hA (Nat.le_refl _)
            have H52 := h5.below hA (Nat.le_refl _)
            have hsz2 : (V2.alloc (.cells #[.int .i64 d.now] 3)).heap.size = V2.heap.size + 1 := by simp
            replace hL := Lib.hid (Src.one hL rfl)
            replace BA3 := Lib.hid BA3
            replace QA3 := Lib.hid QA3
            replace ZA3 := Lib.hid ZA3
            replace TA3 := Lib.hid TA3
            replace H52 := Lib.hid H52
            replace ap := Lib.hid ap
            have k1' := Lib.hid (show d.past.length + 1 ≤ maxLen by unfold maxLen; omega)
            have k2' := Lib.hid (show (d.past.length + 1) * 8 ≤ 140737488355328 by omega)
            have k3' := Lib.hid (show w1.heap.size ≤ (V2.alloc (.cells #[.int .i64 d.now] 3)).heap.size by rw [hsz2]; omega)
            have hql2 := QA2.out.lt
            replace hsz2 := Lib.hid hsz2
            clear hA ht h5 hno hyes hmb XA2 QA2 ZA2 OA2 BA2 z0 z1 z2 z3 z4 e0 e1 e2 e3 e4
            go_wp2_with (at_builtin; refine wpList_app _ rfl (.tmp 62) (.tmp 65) _ rfl w1.heap.size 3 ii0 _ 8 Try.underlying24 hii hzi0 hzi1 hzi2 rfl (.slice X5 d.past.length k5) d.past.length (d.past.map (Value.int .i64)) rfl H52.out (some ⟨V2.heap.size, 0, none⟩) 1 1 _ rfl hL.out k1'.out k2'.out k3'.out ?_; intro v6 w6 ho6 hg6 hat6; refine Hid.out ?_)
            obtain ⟨g6, c6, rfl, hg6B, hg6w⟩ := World.ownsRow.form ho6 (by omega)
            replace QA3 := Lib.hid (QA3.out.grown hg6 (fun e => own_blk_ne H52.out QA3.out (by decide) e.symm))
            replace ZA3 := Lib.hid (ZA3.out.grown hg6 (fun e => own_blk_ne H52.out ZA3.out (by decide) e.symm))
            have hB3 : Below w.heap.size w w6 := below_own BA3.out H52.out hg6 BA3.out.size (by omega)
            have TA4 : LTng w6 w1.heap.size (.agg #[.slice X1 d.t.us.length k1, .slice X2 d.t.bs.length k2, .slice X3 d.t.ns.length k3]) d.t := by
              obtain ⟨y1, y2, y3, ee, o1, o2, o3⟩ := TA3.out.ex
              cases ee
              exact ⟨_, _, _, rfl, own_offM o1 hg6 (fun k hk e => own_type_ne o1 H52.out (by decide) k hk e), own_offM o2 hg6 (fun k hk e => ap.out k hk e), own_offM o3 hg6 (fun k hk e => own_type_ne o3 H52.out (by decide) k hk e)⟩
            have H53 : OwnI w6 w1.heap.size (.slice (some ⟨g6, 0, none⟩) (d.past.length + 1) c6) (d.past ++ [d.now]) := by
              unfold OwnI
              rw [List.length_append, List.length_singleton, List.map_append]
              exact ho6
            have hc6 : d.past.length + 1 ≤ c6 := by
              obtain ⟨A, c, ee, hii2⟩ := H53.ints
              simp only [Value.slice.injEq] at ee
              obtain ⟨rfl, -, rfl⟩ := ee
              have := hii2.le
              rw [List.length_append, List.length_singleton] at this; exact this
            have ap6 : ∀ k, (Value.slice X2 d.t.bs.length k2).ownBlock = some k → some g6 ≠ some k := by
              obtain ⟨y1, y2, y3, ee, o1, o2, o3⟩ := TA3.out.ex
              cases ee
              intro k hk e
              rcases hat6 with h1 | h1
              · exact ap.out k hk (h1.symm.trans e)
              · have h2 := (o2.lt k hk).2
                have h3 : some g6 = some _ := h1
                rw [h3] at e
                cases e
                omega
            replace ap6 := Lib.hid ap6
            have hszw := hB3.size
            have hqw := QA3.out.lt
            replace TA3 := Lib.hid TA4
            replace H53 := Lib.hid H53
            replace BA3 := Lib.hid hB3
            clear TA4 hB3 ho6 hg6 hat6 H52 hL ap x0 x1 x2 x3 x4 y0 y1 y2 y3 y4 f0 f1 f2 f3 f4
            obtain ⟨⟨x0, x1, x2, x3, x4⟩, ⟨f0, f1, f2, f3, f4⟩⟩ := blk5 QA3.out
            have q4 : ((d.past.length + 1 : Nat) : Int) = (d.past.length : Int) + 1 := by omega
            by_cases h8 : d.past.length = 8
            · have g4 : (8 : Int) < (d.past.length : Int) + 1 := by omega
              have g5 : decide ((8 : Int) < (d.past.length : Int) + 1) = true := decide_eq_true g4
              have g6' : (1 : Int) ≤ (c6 : Int) := by omega
              have g7 : (1 : Int) ≤ (d.past.length : Int) + 1 := by omega
              have g8 : (d.past.length : Int) + 1 ≤ (c6 : Int) := by omega
              have g9 : ¬ c6 = 1 := by omega
              have g10 : d.past.length + 1 - 1 = d.past.length := by omega
              replace h8 := Lib.hid h8
              have QB := (((QA3.out.set_ 4 (.slice (some ⟨g6, 0, none⟩) (d.past.length + 1) c6)).set_ 4 (.slice (some ⟨g6, 1, none⟩) d.past.length (c6 - 1))).set_ 3 (.int .i64 m))
              simp at QB
              have ZB := (((ZA3.out.far (p := ⟨q, 4, none⟩) (by dsimp only; omega) (.slice (some ⟨g6, 0, none⟩) (d.past.length + 1) c6)).far (p := ⟨q, 4, none⟩) (by dsimp only; omega) (.slice (some ⟨g6, 1, none⟩) d.past.length (c6 - 1))).far (p := ⟨q, 3, none⟩) (by dsimp only; omega) (.int .i64 m))
              have TB := (((TA3.out.setM (i := 4) (u := .slice (some ⟨g6, 0, none⟩) (d.past.length + 1) c6) QA3.out).setM (i := 4) (u := .slice (some ⟨g6, 1, none⟩) d.past.length (c6 - 1)) (QA3.out.set_ 4 (.slice (some ⟨g6, 0, none⟩) (d.past.length + 1) c6))).setM (i := 3) (u := .int .i64 m) ((QA3.out.set_ 4 (.slice (some ⟨g6, 0, none⟩) (d.past.length + 1) c6)).set_ 4 (.slice (some ⟨g6, 1, none⟩) d.past.length (c6 - 1))))
              have PB := (setI (i := 3) (u := .int .i64 m) (setI (i := 4) (u := .slice (some ⟨g6, 1, none⟩) d.past.length (c6 - 1)) (setI (i := 4) (u := .slice (some ⟨g6, 0, none⟩) (d.past.length + 1) c6) H53.out QA3.out) (QA3.out.set_ 4 (.slice (some ⟨g6, 0, none⟩) (d.past.length + 1) c6))) ((QA3.out.set_ 4 (.slice (some ⟨g6, 0, none⟩) (d.past.length + 1) c6)).set_ 4 (.slice (some ⟨g6, 1, none⟩) d.past.length (c6 - 1))))
              have BB := (((BA3.out.setCell (p := ⟨q, 4, none⟩) (by simp; omega) (.slice (some ⟨g6, 0, none⟩) (d.past.length + 1) c6)).setCell (p := ⟨q, 4, none⟩) (by simp; omega) (.slice (some ⟨g6, 1, none⟩) d.past.length (c6 - 1))).setCell (p := ⟨q, 3, none⟩) (by simp; omega) (.int .i64 m))
              replace QB := Lib.hid QB
              replace ZB := Lib.hid ZB
              replace TB := Lib.hid TB
              replace PB := Lib.hid PB
              replace BB := Lib.hid BB
              clear QA3 ZA3 TA3 H53 BA3
              refine Lib.hid ?_
              go_upto_region 17 with (fail)
              generalize (((w6.setCell ⟨q, 4, none⟩ (.slice (some ⟨g6, 0, none⟩) (d.past.length + 1) c6)).setCell ⟨q, 4, none⟩ (.slice (some ⟨g6, 1, none⟩) d.past.length (c6 - 1))).setCell ⟨q, 3, none⟩ (.int .i64 m)) = V9 at *
              clear x0 x1 x2 x3 x4 f0 f1 f2 f3 f4
              obtain ⟨⟨x0, x1, x2, x3, x4⟩, -⟩ := blk5 QB.out
              obtain ⟨⟨z0, z1, z2, z3, z4⟩, ⟨e0, e1, e2, e3, e4⟩⟩ := blk5 ZB.out
              have hxl : ((d.past ++ [d.now]).drop (d.past.length + 1 - 8)).length = d.past.length := by have h8' := h8.out; rw [List.length_drop, List.length_append, List.length_singleton]; omega
              have PT : TailI V9 w1.heap.size (.slice (some ⟨g6, 1, none⟩) d.past.length (c6 - 1)) ((d.past ++ [d.now]).drop (d.past.length + 1 - 8)) := tail_one h8.out (by omega) PB.out
              have MD : MDk V9 w1.heap.size (.agg #[.slice X1 d.t.us.length k1, .slice X2 d.t.bs.length k2, .slice X3 d.t.ns.length k3, .int .i64 m, .slice (some ⟨g6, 1, none⟩) d.past.length (c6 - 1)]) ⟨d.t, m, (d.past ++ [d.now]).drop (d.past.length + 1 - 8)⟩ := ⟨_, _, _, _, rfl, TB.out, PT⟩
              clear PT hxl
              have HF := fun u0 u1 u2 u3 u4 => (own_md5 (u0 := u0) (u1 := u1) (u2 := u2) (u3 := u3) (u4 := u4) MD ZB.out).mono (B' := w.heap.size) (by omega)
              have HG := fun u0 u1 u2 u3 u4 => below_dk5 (u0 := u0) (u1 := u1) (u2 := u2) (u3 := u3) (u4 := u4) (g := w.heap.size + 2) BB.out (by omega)
              replace HF := Lib.hid HF
              replace HG := Lib.hid HG
              clear MD QB ZB TB PB BB
              go_wp2
              refine bodyPost_ret (v := .tuple #[.agg #[.slice X1 d.t.us.length k1, .slice X2 d.t.bs.length k2, .slice X3 d.t.ns.length k3, .int .i64 m, .slice (some ⟨g6, 1, none⟩) d.past.length (c6 - 1)], .bool true]) (by simp [results, Try.results15, go_sem, z0, z1, z2, z3, z4]) rfl ?_
              rw [hg.out]
              exact ⟨_, rfl, HF.out _ _ _ _ _, (fun h7 => absurd h7 (by have := h8.out; omega)), HG.out _ _ _ _ _⟩
            · have g3 : ((d.past.length : Int) + 1 ≤ 8) := by omega
              have g4 : ¬ ((8 : Int) < (d.past.length : Int) + 1) := by omega
              have g5 : decide ((8 : Int) < (d.past.length : Int) + 1) = false := decide_eq_false g4
              have QB := ((QA3.out.set_ 4 (.slice (some ⟨g6, 0, none⟩) (d.past.length + 1) c6)).set_ 3 (.int .i64 m))
              simp at QB
              have ZB := ((ZA3.out.far (p := ⟨q, 4, none⟩) (by dsimp only; omega) (.slice (some ⟨g6, 0, none⟩) (d.past.length + 1) c6)).far (p := ⟨q, 3, none⟩) (by dsimp only; omega) (.int .i64 m))
              have TB := ((TA3.out.setM (i := 4) (u := .slice (some ⟨g6, 0, none⟩) (d.past.length + 1) c6) QA3.out).setM (i := 3) (u := .int .i64 m) (QA3.out.set_ 4 (.slice (some ⟨g6, 0, none⟩) (d.past.length + 1) c6)))
              have PB := (setI (i := 3) (u := .int .i64 m) (setI (i := 4) (u := .slice (some ⟨g6, 0, none⟩) (d.past.length + 1) c6) H53.out QA3.out) (QA3.out.set_ 4 (.slice (some ⟨g6, 0, none⟩) (d.past.length + 1) c6)))
              have BB := ((BA3.out.setCell (p := ⟨q, 4, none⟩) (by simp; omega) (.slice (some ⟨g6, 0, none⟩) (d.past.length + 1) c6)).setCell (p := ⟨q, 3, none⟩) (by simp; omega) (.int .i64 m))
              replace QB := Lib.hid QB
              replace ZB := Lib.hid ZB
              replace TB := Lib.hid TB
              replace PB := Lib.hid PB
              replace BB := Lib.hid BB
              clear QA3 ZA3 TA3 H53 BA3
              refine Lib.hid ?_
              go_upto_region 17 with (fail)
              generalize ((w6.setCell ⟨q, 4, none⟩ (.slice (some ⟨g6, 0, none⟩) (d.past.length + 1) c6)).setCell ⟨q, 3, none⟩ (.int .i64 m)) = V9 at *
              clear x0 x1 x2 x3 x4 f0 f1 f2 f3 f4
              obtain ⟨⟨x0, x1, x2, x3, x4⟩, -⟩ := blk5 QB.out
              obtain ⟨⟨z0, z1, z2, z3, z4⟩, ⟨e0, e1, e2, e3, e4⟩⟩ := blk5 ZB.out
              have hxd : (d.past ++ [d.now]).drop (d.past.length + 1 - 8) = d.past ++ [d.now] := by rw [show d.past.length + 1 - 8 = 0 by omega]; rfl
              have MD : MDk V9 w1.heap.size (.agg #[.slice X1 d.t.us.length k1, .slice X2 d.t.bs.length k2, .slice X3 d.t.ns.length k3, .int .i64 m, .slice (some ⟨g6, 0, none⟩) (d.past.length + 1) c6]) ⟨d.t, m, (d.past ++ [d.now]).drop (d.past.length + 1 - 8)⟩ := ⟨_, _, _, _, rfl, TB.out, by show TailI _ _ _ (List.drop _ _); rw [hxd]; exact OwnI.tail PB.out⟩
              have WD : WDk V9 w1.heap.size (.agg #[.slice X1 d.t.us.length k1, .slice X2 d.t.bs.length k2, .slice X3 d.t.ns.length k3, .int .i64 m, .slice (some ⟨g6, 0, none⟩) (d.past.length + 1) c6]) ⟨d.t, m, (d.past ++ [d.now]).drop (d.past.length + 1 - 8)⟩ := ⟨_, _, _, _, rfl, TB.out, by show OwnI _ _ _ (List.drop _ _); rw [hxd]; exact PB.out, ap6.out⟩
              clear hxd
              have HW := fun u0 u1 u2 u3 u4 => (own_wd5 (u0 := u0) (u1 := u1) (u2 := u2) (u3 := u3) (u4 := u4) WD ZB.out).mono (B' := w.heap.size) (by omega)
              replace HW := Lib.hid HW
              have HF := fun u0 u1 u2 u3 u4 => (own_md5 (u0 := u0) (u1 := u1) (u2 := u2) (u3 := u3) (u4 := u4) MD ZB.out).mono (B' := w.heap.size) (by omega)
              have HG := fun u0 u1 u2 u3 u4 => below_dk5 (u0 := u0) (u1 := u1) (u2 := u2) (u3 := u3) (u4 := u4) (g := w.heap.size + 2) BB.out (by omega)
              replace HF := Lib.hid HF
              replace HG := Lib.hid HG
              clear MD WD QB ZB TB PB BB
              go_wp2
              refine bodyPost_ret (v := .tuple #[.agg #[.slice X1 d.t.us.length k1, .slice X2 d.t.bs.length k2, .slice X3 d.t.ns.length k3, .int .i64 m, .slice (some ⟨g6, 0, none⟩) (d.past.length + 1) c6], .bool true]) (by simp [results, Try.results15, go_sem, z0, z1, z2, z3, z4]) rfl ?_
              rw [hg.out]
              exact ⟨_, rfl, HF.out _ _ _ _ _, (fun _ => HW.out _ _ _ _ _), HG.out _ _ _ _ _⟩
end Go.Proofs.Ytjnlpknjdclalaa
