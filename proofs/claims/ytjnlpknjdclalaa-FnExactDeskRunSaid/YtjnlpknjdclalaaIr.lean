/-
  The contract of DeskRun of the program.
-/
import Derived.Test.YtjnlpknjdclalaaDbi
import Derived.Test.YtjnlpknjdclalaaIe
namespace Go.Proofs.Ytjnlpknjdclalaa
open Go.RowKit

set_option maxRecDepth 100000 in
set_option maxHeartbeats 8000000 in
theorem implDeskRun_any (v : Value) (d : Dk) (A : Option Addr) (n c : Nat) (q : List Dd) (w : World) (h : Dsk w v d) (hf : d.Fine) (hq : DeedsAre w A n c q) (hn : n ≤ 1048576) :
    Calls Try.prog 7 #[v, .slice A n c] w (RetDkN w (dkRun d q).1 ((dkRun d q).2 : Int)) := by
  obtain ⟨A1, c1, A2, c2, A3, c3, A5, c5, rfl, -⟩ := h.ex
  have hB := ((Below.refl w.heap.size w).alloc (Nat.le_refl _) (.cells #[.slice A1 d.t.us.length c1, .slice A2 d.t.bs.length c2, .slice A3 d.t.ns.length c3, .int .i64 d.now, .slice A5 d.past.length c5] 28)).alloc (by simp) (.cells #[.slice none 0 0, .slice none 0 0, .slice none 0 0, .int .i64 0, .slice none 0 0] 28)
  have HX := (Blk.new w 28 #[.slice A1 d.t.us.length c1, .slice A2 d.t.bs.length c2, .slice A3 d.t.ns.length c3, .int .i64 d.now, .slice A5 d.past.length c5]).alloc (.cells #[.slice none 0 0, .slice none 0 0, .slice none 0 0, .int .i64 0, .slice none 0 0] 28)
  have HZ : Blk ((w.alloc (.cells #[.slice A1 d.t.us.length c1, .slice A2 d.t.bs.length c2, .slice A3 d.t.ns.length c3, .int .i64 d.now, .slice A5 d.past.length c5] 28)).alloc (.cells #[.slice none 0 0, .slice none 0 0, .slice none 0 0, .int .i64 0, .slice none 0 0] 28)) (w.heap.size + 1) 28 #[.slice none 0 0, .slice none 0 0, .slice none 0 0, .int .i64 0, .slice none 0 0] := blk_new_at _ (by simp)
  have HD := h.below hB (Nat.le_refl _)
  have HQ := Lib.hid hq
  have hql := Lib.hid hq.len
  have K1 := Lib.hid (implDeskOk_any _ d _ HD hf)
  have hno := Lib.hid (run_no (d := d) (l := q))
  have hyes := Lib.hid (run_yes (d := d) (l := q))
  have hrok := Lib.hid (fun (hk : dkOk d = true) l => run_ok hk l)
  have hsn := Lib.hid (fun k a => run_snoc (d := d) (l := q) (k := k) (a := a))
  have hff := Lib.hid hf
  generalize hnb : dkOk d = nb at *
  replace hnb := Lib.hid hnb
  replace hB := Lib.hid hB
  replace HX := Lib.hid HX
  replace HZ := Lib.hid HZ
  replace HD := Lib.hid HD
  clear h hf hq
  go_enter Try.func7, Try.ntmps7
  go_upto_region 1 with (fail)
  generalize (w.alloc (.cells #[.slice A1 d.t.us.length c1, .slice A2 d.t.bs.length c2, .slice A3 d.t.ns.length c3, .int .i64 d.now, .slice A5 d.past.length c5] 28)).alloc (.cells #[.slice none 0 0, .slice none 0 0, .slice none 0 0, .int .i64 0, .slice none 0 0] 28) = W at *
  obtain ⟨⟨x0, x1, x2, x3, x4⟩, -⟩ := blk5 HX.out
  go_wp2_with (fail)
  refine K1.out.mono ?_
  rintro e w1 ⟨rfl, b1⟩
  have hB1 := Lib.hid (hB.out.trans (b1.mono hB.out.size))
  have HX1 := Lib.hid (HX.out.below b1 HX.out.lt)
  have HZ1 := Lib.hid (HZ.out.below b1 HZ.out.lt)
  have HD1 := Lib.hid (HD.out.below b1 (Nat.le_refl _))
  clear x0 x1 x2 x3 x4 K1 b1 HX HZ HD hB
  have hend : ∀ (hg : dkRun d q = (noDk, 0)) u0 u1 u2 u3 u4, RetDkN w (dkRun d q).1 ((dkRun d q).2 : Int) (.returned (.tuple #[.agg #[.slice none 0 0, .slice none 0 0, .slice none 0 0, .int .i64 0, .slice none 0 0], .int .i64 0])) (((((w1.setCell ⟨w.heap.size + 1, 0, none⟩ u0).setCell ⟨w.heap.size + 1, 1, none⟩ u1).setCell ⟨w.heap.size + 1, 2, none⟩ u2).setCell ⟨w.heap.size + 1, 3, none⟩ u3).setCell ⟨w.heap.size + 1, 4, none⟩ u4) := fun hg u0 u1 u2 u3 u4 => by
    rw [hg]
    exact ⟨_, rfl, (own_noDk w1 _).set5 HZ1.out, below_dk5 hB1.out (by omega)⟩
  replace hend := Lib.hid hend
  cases nb
  · have hg := Lib.hid (hend.out (hno.out (by simp)))
    obtain ⟨⟨z0, z1, z2, z3, z4⟩, ⟨e0, e1, e2, e3, e4⟩⟩ := blk5 HZ1.out
    clear HX1 HZ1 HD1 HQ hno hyes hend hsn hrok
    go_wp2
    refine bodyPost_ret (v := .tuple #[.agg #[.slice none 0 0, .slice none 0 0, .slice none 0 0, .int .i64 0, .slice none 0 0], .int .i64 0]) (by simp [results, Try.results7, go_sem, z0, z1, z2, z3, z4]) rfl ?_
    exact hg.out _ _ _ _ _
  · by_cases hl : n ≤ 40
    · have hl1 : ¬ (40 < (n : Int)) := by omega
      have hl2 : decide (40 < (n : Int)) = false := decide_eq_false hl1
      have hg := Lib.hid (hyes.out ⟨rfl, by have := hql.out; omega⟩)
      have K2 := Lib.hid (copiedDesk_any _ d w1 HD1.out hff.out)
      obtain ⟨⟨x0, x1, x2, x3, x4⟩, ⟨f0, f1, f2, f3, f4⟩⟩ := blk5 HX1.out
      clear HD1 hno hyes hend
      go_wp2_with (go_at_call 30; refine K2.out.mono ?_; rintro e w2 ⟨v2, rfl, o2, b2⟩; obtain ⟨X1, k1, X2, k2, X3, k3, X5, k5, rfl⟩ := o2.shape; refine Hid.out ?_)
      have HX2 := HX1.out.below b2 HX1.out.lt
      have HZ2 := HZ1.out.below b2 HZ1.out.lt
      have hB2 := hB1.out.trans (b2.mono hB1.out.size)
      have hs1 := hB1.out.size
      have S := Lib.hid (DBI.start (w := w) (b := w.heap.size) (z := w.heap.size + 1) HX2 HZ2 hB2 (Nat.le_refl _) (by omega) (by omega) (o2.own.mono (B' := w.heap.size) hs1))
      clear x0 x1 x2 x3 x4 f0 f1 f2 f3 f4
      obtain ⟨⟨x0, x1, x2, x3, x4⟩, ⟨f0, f1, f2, f3, f4⟩⟩ := blk5 HX2
      clear o2 K2 HX1 HZ1 hB1 HX2 HZ2 hB2 b2
      refine Lib.hid ?_
      go_upto_region 4 with (fail)
      generalize ((((w2.setCell ⟨w.heap.size, 0, none⟩ (.slice X1 d.t.us.length k1)).setCell ⟨w.heap.size, 1, none⟩ (.slice X2 d.t.bs.length k2)).setCell ⟨w.heap.size, 2, none⟩ (.slice X3 d.t.ns.length k3)).setCell ⟨w.heap.size, 3, none⟩ (.int .i64 d.now)).setCell ⟨w.heap.size, 4, none⟩ (.slice X5 d.past.length k5) = V at *
      clear x0 x1 x2 x3 x4 f0 f1 f2 f3 f4
      have hz0 : runTo d (q.take 0) = (d, 0) := rfl
      replace hz0 := Lib.hid hz0
      go_wp2
      go_loopw [6, 24] (fun s6 s24 wr => ∃ (k : Nat) (dk : Dk) (m : Nat) (X1 : Option Addr) (k1 : Nat) (X2 : Option Addr) (k2 : Nat) (X3 : Option Addr) (k3 : Nat) (X5 : Option Addr) (k5 : Nat), k ≤ n ∧ s24 = .int .i64 (k : Int) ∧ s6 = .int .i64 (m : Int) ∧ runTo d (q.take k) = (dk, m) ∧ m ≤ k ∧ DBI w wr w.heap.size (w.heap.size + 1) #[.slice X1 dk.t.us.length k1, .slice X2 dk.t.bs.length k2, .slice X3 dk.t.ns.length k3, .int .i64 dk.now, .slice X5 dk.past.length k5] dk) (fun _ s24 _ => n - (intOf s24).toNat)
      case atStart => exact ⟨0, d, 0, _, _, _, _, _, _, _, _, Nat.zero_le _, rfl, rfl, hz0.out, Nat.le_refl _, S.out⟩
      case round =>
        clear S hz0
        obtain ⟨k, dk, m, X1, k1, X2, k2, X3, k3, X5, k5, hk, rfl, rfl, hr, hm, S⟩ := hrel
        have hok := (hrok.out (by simp) (q.take k))
        rw [hr] at hok
        obtain ⟨hok1, hok2, -⟩ := hok
        have hfk := Lib.hid (fine_of_ok hok1 (by rw [hok2]; exact hff.out.t))
        replace hok1 := Lib.hid hok1
        replace hok2 := Lib.hid hok2
        by_cases hlt : k < n
        · have hx : q[k]? = some (q[k]'(by have := hql.out; omega)) := List.getElem?_eq_getElem (by have := hql.out; omega)
          have hnx := hsn.out k _ hx
          rw [hr] at hnx
          generalize q[k]'(by have := hql.out; omega) = x at *
          obtain ⟨b, o, rfl, hbl, hc⟩ := (HQ.out.below S.low (Nat.le_refl _)).at_ (by omega)
          obtain ⟨y1, y2⟩ := hc k x hx
          have K3 := Lib.hid (implDeskDo_any _ dk x (wr.alloc (.cells #[.int .i64 x.kind, .int .i64 x.n] 47)) (S.lit (.cells #[.int .i64 x.kind, .int .i64 x.n] 47)).own.dsk hfk.out)
          obtain ⟨⟨x0, x1, x2, x3, x4⟩, -⟩ := blk5 S.box
          have hstep : stepD (dk, m) x = if (dkDo dk x).2 = true then ((dkDo dk x).1, m + 1) else (dk, m) := rfl
          rw [hstep] at hnx
          have cs := dd_cells
          have hxi := Lib.hid (fun (i : Nat) => (rfl : i = i))
          replace S := Lib.hid S
          replace hr := Lib.hid hr
          replace hnx := Lib.hid hnx
          generalize dkDo dk x = r at *
          obtain ⟨du, ru⟩ := r
          dsimp only at hnx K3
          clear hc hx hstep hxi
          have hm1 : IntKind.i64.wrap ((m : Int) + 1) = ((m + 1 : Nat) : Int) := by rw [IntWalk.i64_in _ (by omega)]; omega
          go_upto_region 8 with (fail)
          have S1 := Lib.hid (S.out.lit (.cells #[.int .i64 x.kind, .int .i64 x.n] 47))
          have Y1 := Lib.hid (Blk.new wr 47 #[.int .i64 x.kind, .int .i64 x.n])
          clear y1 y2 x0 x1 x2 x3 x4 S hbl
          generalize wr.alloc (.cells #[.int .i64 x.kind, .int .i64 x.n] 47) = W1 at *
          have y1 : W1.cell? ⟨wr.heap.size, 0, none⟩ = some (.int .i64 x.kind) := Y1.out.cell 0
          have y2 : W1.cell? ⟨wr.heap.size, 1, none⟩ = some (.int .i64 x.n) := Y1.out.cell 1
          obtain ⟨⟨x0, x1, x2, x3, x4⟩, -⟩ := blk5 S1.out.box
          go_wp2_with (go_at_call 18; refine K3.out.mono ?_; rintro e w3 ⟨v3, rfl, o3, b3⟩; obtain ⟨U1, j1, U2, j2, U3, j3, U5, j5, rfl, -⟩ := o3.dsk.ex; refine Hid.out ?_)
          have o3' := Lib.hid ((o3.mono (B' := w.heap.size) S1.out.low.size).below ((Below.refl w3.heap.size w3).alloc (Nat.le_refl _) (.cells #[.slice U1 du.t.us.length j1, .slice U2 du.t.bs.length j2, .slice U3 du.t.ns.length j3, .int .i64 du.now, .slice U5 du.past.length j5] 28)) (Nat.le_refl _))
          have S3 := Lib.hid ((S1.out.step b3).lit (.cells #[.slice U1 du.t.us.length j1, .slice U2 du.t.bs.length j2, .slice U3 du.t.ns.length j3, .int .i64 du.now, .slice U5 du.past.length j5] 28))
          have Q3 := Lib.hid (Blk.new w3 28 #[.slice U1 du.t.us.length j1, .slice U2 du.t.bs.length j2, .slice U3 du.t.ns.length j3, .int .i64 du.now, .slice U5 du.past.length j5])
          clear o3 b3 y1 y2 x0 x1 x2 x3 x4 S1 Y1 K3
          refine Lib.hid ?_
          go_upto_region 9 with (fail)
          generalize w3.alloc (.cells #[.slice U1 du.t.us.length j1, .slice U2 du.t.bs.length j2, .slice U3 du.t.ns.length j3, .int .i64 du.now, .slice U5 du.past.length j5] 28) = W3 at *
          obtain ⟨⟨x0, x1, x2, x3, x4⟩, ⟨f0, f1, f2, f3, f4⟩⟩ := blk5 S3.out.box
          obtain ⟨⟨y0, y1, y2, y3, y4⟩, -⟩ := blk5 Q3.out
          cases ru
          · have hnx' := Lib.hid (hnx.out.trans (if_neg (by simp)))
            clear hnx
            go_wp2
            go_roundw
            case rel => exact ⟨k + 1, dk, m, _, _, _, _, _, _, _, _, by omega, by go_num, rfl, hnx'.out, by omega, S3.out⟩
            case measure => simp [intOf]; omega
          · have hnx' := Lib.hid (hnx.out.trans (if_pos rfl))
            have S4 := Lib.hid (S3.out.put o3'.out)
            clear hnx S3
            go_wp2
            go_roundw
            case rel => exact ⟨k + 1, du, m + 1, _, _, _, _, _, _, _, _, by omega, by go_num, rfl, hnx'.out, by omega, S4.out⟩
            case measure => simp [intOf]; omega
        · obtain rfl : k = n := by omega
          have hall : runTo d q = (dk, m) := by
            rw [← hr, List.take_of_length_le (by have := hql.out; omega)]
          rw [hall] at hg
          obtain ⟨⟨x0, x1, x2, x3, x4⟩, -⟩ := blk5 S.box
          obtain ⟨⟨z0, z1, z2, z3, z4⟩, ⟨e0, e1, e2, e3, e4⟩⟩ := blk5 S.res
          have HF := Lib.hid S.finish
          replace hr := Lib.hid hr
          clear hall
          go_wp2
          refine bodyPost_ret (v := .tuple #[.agg #[.slice X1 dk.t.us.length k1, .slice X2 dk.t.bs.length k2, .slice X3 dk.t.ns.length k3, .int .i64 dk.now, .slice X5 dk.past.length k5], .int .i64 (m : Int)]) (by simp [results, Try.results7, go_sem, z0, z1, z2, z3, z4]) rfl ?_
          rw [hg.out]
          exact ⟨_, rfl, (HF.out _ _ _ _ _).1, (HF.out _ _ _ _ _).2⟩
    · have hl1 : 40 < (n : Int) := by omega
      have hl2 : decide (40 < (n : Int)) = true := decide_eq_true hl1
      have hg := Lib.hid (hend.out (hno.out (fun hh => by have := hql.out; omega)))
      obtain ⟨⟨z0, z1, z2, z3, z4⟩, ⟨e0, e1, e2, e3, e4⟩⟩ := blk5 HZ1.out
      clear HX1 HZ1 HD1 HQ hno hyes hend hsn hrok
      go_wp2
      refine bodyPost_ret (v := .tuple #[.agg #[.slice none 0 0, .slice none 0 0, .slice none 0 0, .int .i64 0, .slice none 0 0], .int .i64 0]) (by simp [results, Try.results7, go_sem, z0, z1, z2, z3, z4]) rfl ?_
      exact hg.out _ _ _ _ _
end Go.Proofs.Ytjnlpknjdclalaa
