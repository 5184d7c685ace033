/-
  A drawn desk.
-/
import Derived.Test.YtjnlpknjdclalaaDrawKs
import Derived.Test.YtjnlpknjdclalaaDTng0
import Derived.Test.YtjnlpknjdclalaaDrawDd
import Derived.Test.YtjnlpknjdclalaaJa
import Derived.Test.YtjnlpknjdclalaaJd
import Derived.Test.YtjnlpknjdclalaaJn
namespace Go.Proofs.Ytjnlpknjdclalaa
open Go.RowKit

set_option maxRecDepth 100000 in
set_option maxHeartbeats 16000000 in
theorem desk_any (g p : Nat) (n : Int) (w : World) (h : Rd w g p) (hp : p ≤ 100) (hn : 1 ≤ n) (hn' : n ≤ 1000) :
    Calls Try.prog 27 #[.pointer (some ⟨g, 0, none⟩), .int .i64 n] w (RetKDesk w g p) := by
  have hg0 := h.lt
  have hR := h.alloc' (.cells #[.slice none 0 0, .slice none 0 0, .slice none 0 0, .int .i64 0, .slice none 0 0] 28)
  have HX := Lib.hid (Blk.new w 28 #[.slice none 0 0, .slice none 0 0, .slice none 0 0, .int .i64 0, .slice none 0 0])
  have hgr := Lib.hid (grown_of_below (some g) ((Below.refl w.heap.size w).alloc (Nat.le_refl _) (.cells #[.slice none 0 0, .slice none 0 0, .slice none 0 0, .int .i64 0, .slice none 0 0] 28)))
  have hsW : (w.alloc (.cells #[.slice none 0 0, .slice none 0 0, .slice none 0 0, .int .i64 0, .slice none 0 0] 28)).heap.size = w.heap.size + 1 := by simp
  have HD := Lib.hid (drawn0_any g p _ hR (by omega))
  clear h hR
  go_enter Try.func27, Try.ntmps27
  go_upto_region 1 with (fail)
  generalize w.alloc (.cells #[.slice none 0 0, .slice none 0 0, .slice none 0 0, .int .i64 0, .slice none 0 0] 28) = W at *
  go_wp2_with (fail)
  refine HD.out.mono ?_
  rintro e w1 ⟨v, t, q, rfl, ho, hst, hr, hq, hg⟩
  have hgr1 := Lib.hid (hgr.out.trans hg)
  have HX1 := HX.out.grown hg (by simp; omega)
  have hlt := ho.l
  obtain ⟨A1, c1, A2, c2, A3, c3, rfl⟩ := hlt.shape
  clear HD hgr HX hg ho
  go_wp2_with (fail)
  refine (pick_any g q 5 _ hr (by omega) (by omega) (by omega)).mono ?_
  rintro e w2 ⟨k1, rfl, hk1, hr2, hg2, -⟩
  have hk1a := hk1.1
  have hk1b : k1 < 5 := by omega
  have hgr2 := Lib.hid (hgr1.out.trans hg2)
  have HX2 := HX1.grown hg2 (by simp; omega)
  have hlt2 := hlt.keptG hg2 (by omega)
  have e1 : IntKind.i64.wrap (1 + k1) = 1 + k1 := IntWalk.i64_in _ (by omega)
  have KN := Lib.hid (specDeskNewW_any _ t (1 + k1) w2 hlt2.tng (hst.fine (by omega)) (by omega))
  have hgz2 : w.heap.size + 1 ≤ w2.heap.size := by have := hgr2.out.size; have := HX2.lt; omega
  obtain ⟨hsd, hsl⟩ := new_small hst (n := 1 + k1) (by omega)
  replace hsd := Lib.hid hsd
  replace hsl := Lib.hid hsl
  clear hgr1 HX1 hlt hr hk1 hg2 hlt2 hst
  generalize dkNew t (1 + k1) = d at *
  generalize namedB t (1 + k1) = nb at *
  replace hr2 := Lib.hid hr2
  replace HX2 := Lib.hid HX2
  go_wp2_with (fail)
  refine KN.out.mono ?_
  rintro e w3 ⟨v3, rfl, -, hw3, hb3⟩
  have hw3 := (hw3 (by omega)).mono (B' := w.heap.size) (by omega)
  obtain ⟨X1, k1', X2, k2', X3, k3', X5, k5', rfl⟩ := hw3.shape
  have S := Lib.hid (KSt.start (hr2.out.below hb3 (Nat.le_refl _)) (HX2.out.below hb3 HX2.out.lt) hw3 hsd.out (hgr2.out.trans (grown_of_below (some g) hb3)) hg0)
  clear KN hw3 hb3 hr2 HX2 hsd hgr2 e1
  go_upto_region 2 with (fail)
  generalize w3.alloc (.cells #[.slice X1 d.t.us.length k1', .slice X2 d.t.bs.length k2', .slice X3 d.t.ns.length k3', .int .i64 d.now, .slice X5 d.past.length k5'] 28) = W3 at *
  generalize w3.heap.size = b at *
  have hb0 := S.out.b0
  obtain ⟨⟨z0, z1, z2, z3, z4⟩, -⟩ := blk5 S.out.box
  have KO := Lib.hid (specDeskOk_any _ d W3 S.out.own.dsk S.out.sm.fine)
  generalize dkOk d = ok at *
  go_wp2_with (fail)
  refine KO.out.mono ?_
  rintro e w4 ⟨rfl, b4⟩
  replace S := Lib.hid (S.out.below b4)
  clear b4 z0 z1 z2 z3 z4 KO
  go_upto_if 21 with (fail)
  go_cut [6] (fun s6 wx => KAt w g (p + 21) 0 wx b)
  case first =>
    cases ok
    · go_wp2_with (fail)
      refine (tongues_any 0 w4).mono ?_
      rintro e w5 ⟨v5, t5, rfl, ho5, hs5, -, hb5⟩
      replace S := Lib.hid (S.out.below hb5)
      obtain ⟨A1, c1, A2, c2, A3, c3, rfl⟩ := ho5.l.shape
      have KN := Lib.hid (specDeskNewW_any _ t5 7 w5 ho5.l.tng (hs5.fine (by omega)) (by omega))
      have hsd := Lib.hid (new_small (n := 7) (hs5.mono (m' := 40) (by omega)) (by omega)).1
      have hsl := Lib.hid (new_small (n := 7) (hs5.mono (m' := 40) (by omega)) (by omega)).2
      generalize dkNew t5 7 = d5 at *
      generalize namedB t5 7 = nb5 at *
      clear ho5 hs5 hb5
      go_wp2_with (fail)
      refine KN.out.mono ?_
      rintro e w6 ⟨v6, rfl, -, hw6, hb6⟩
      have hz6 := S.out.gr.size
      have hw7 := (hw6 (by omega)).mono (B' := w.heap.size) hz6
      obtain ⟨Y1, l1, Y2, l2, Y3, l3, Y5, l5, rfl⟩ := hw7.shape
      replace S := Lib.hid (S.out.below hb6)
      obtain ⟨⟨z0, z1, z2, z3, z4⟩, ⟨f0, f1, f2, f3, f4⟩⟩ := blk5 S.out.box
      have S2 := Lib.hid (S.out.put hw7 hsd.out)
      clear hw6 hw7 hb6 KN S hsd
      go_wp2
      go_meet
      exact ⟨_, _, _, _, _, _, _, _, _, _, S2.out, by rw [hsl.out]; omega, by omega⟩
    · go_wp2
      go_meet
      exact ⟨_, _, _, _, _, _, _, _, _, _, S.out, by rw [hsl.out]; omega, by omega⟩
  case rest =>
    clear S
    obtain ⟨d, X1, k1, X2, k2, X3, k3, X5, k5, q, S, hsl, hq⟩ := hcut
    replace S := Lib.hid S
    replace hsl := Lib.hid hsl
    go_wp2_with (fail)
    refine (pick_any g q 6 _ S.out.rd (by omega) (by omega) (by omega)).mono ?_
    rintro e w5 ⟨k0, rfl, hk0, hr5, hg5, -⟩
    obtain ⟨K, rfl⟩ : ∃ K : Nat, k0 = (K : Int) := ⟨k0.toNat, by omega⟩
    replace S := Lib.hid (S.out.pick hr5 hg5)
    have hK : K ≤ 5 := by omega
    clear hk0 hr5 hg5
    go_wp2
    go_loopw [7, 8, 9] (fun s7 s8 s9 wr => ∃ (k : Nat) (d : Dk) (X1 : Option Addr) (k1 : Nat) (X2 : Option Addr) (k2 : Nat) (X3 : Option Addr) (k3 : Nat) (X5 : Option Addr) (k5 q : Nat), s7 = .int .i64 (k : Int) ∧ KSt w g wr b d #[.slice X1 d.t.us.length k1, .slice X2 d.t.bs.length k2, .slice X3 d.t.ns.length k3, .int .i64 d.now, .slice X5 d.past.length k5] q ∧ d.past.length + k ≤ 5 ∧ q + 20 * k ≤ p + 122) (fun s7 _ _ _ => (intOf s7).toNat)
    case atStart => exact ⟨_, _, _, _, _, _, _, _, _, _, _, rfl, S.out, by have := hsl.out; omega, by omega⟩
    case round =>
      clear S hsl hq
      obtain ⟨k, d, X1, k1, X2, k2, X3, k3, X5, k5, q, rfl, S, hsl, hq⟩ := hrel
      replace S := Lib.hid S
      replace hsl := Lib.hid hsl
      by_cases hk : k = 0
      · subst hk
        go_wp2_with (fail)
        refine (odd_any g q n _ S.out.rd (by omega) hn (by omega)).mono ?_
        rintro e V1 ⟨tb, q1, rfl, hq1, hr1, hg1, -⟩
        replace S := Lib.hid (S.out.pick hr1 hg1)
        clear hr1 hg1
        cases tb
        · obtain ⟨⟨x0, x1, x2, x3, x4⟩, -⟩ := blk5 S.out.box
          obtain ⟨⟨z0, z1, z2, z3, z4⟩, ⟨f0, f1, f2, f3, f4⟩⟩ := blk5 S.out.res
          have HF := fun u0 u1 u2 u3 u4 => S.out.finish (p := p) (u0 := u0) (u1 := u1) (u2 := u2) (u3 := u3) (u4 := u4) (by omega)
          replace HF := Lib.hid HF
          clear S
          go_wp2
          refine bodyPost_ret (v := .agg #[.slice X1 d.t.us.length k1, .slice X2 d.t.bs.length k2, .slice X3 d.t.ns.length k3, .int .i64 d.now, .slice X5 d.past.length k5]) (by simp [results, Try.results27, go_sem, z0, z1, z2, z3, z4]) rfl ?_
          exact HF.out _ _ _ _ _
        · go_wp2_with (fail)
          refine (pick_any g q1 3 _ S.out.rd (by omega) (by omega) (by omega)).mono ?_
          rintro e V2 ⟨k9, rfl, hk9, hr9, hg9, -⟩
          replace S := Lib.hid (S.out.pick hr9 hg9)
          clear hr9 hg9
          by_cases h90 : k9 = 0
          · subst h90
            have hbe : ((0 : Int) == 0) = true := rfl
            obtain ⟨⟨x0, x1, x2, x3, x4⟩, ⟨f0, f1, f2, f3, f4⟩⟩ := blk5 S.out.box
            replace S := Lib.hid S.out.now0
            go_upto_region 17 with (fail)
            generalize V2.setCell ⟨b, 3, none⟩ (.int .i64 0) = V3 at *
            clear x0 x1 x2 x3 x4 f0 f1 f2 f3 f4
            obtain ⟨⟨x0, x1, x2, x3, x4⟩, -⟩ := blk5 S.out.box
            obtain ⟨⟨z0, z1, z2, z3, z4⟩, ⟨f0, f1, f2, f3, f4⟩⟩ := blk5 S.out.res
            have HF := fun u0 u1 u2 u3 u4 => S.out.finish (p := p) (u0 := u0) (u1 := u1) (u2 := u2) (u3 := u3) (u4 := u4) (by omega)
            replace HF := Lib.hid HF
            clear S
            go_wp2
            refine bodyPost_ret (v := .agg #[.slice X1 d.t.us.length k1, .slice X2 d.t.bs.length k2, .slice X3 d.t.ns.length k3, .int .i64 0, .slice X5 d.past.length k5]) (by simp [results, Try.results27, go_sem, z0, z1, z2, z3, z4]) rfl ?_
            exact HF.out _ _ _ _ _
          · have hbe0 : (k9 == 0) = false := by simpa using h90
            by_cases h91 : k9 = 1
            · subst h91
              have hbe1 : ((1 : Int) == 1) = true := rfl
              obtain ⟨ii0, hii, hzi0, hzi1, hzi2⟩ := info_parts int_info0
              obtain ⟨⟨x0, x1, x2, x3, x4⟩, -⟩ := blk5 S.out.box
              replace S := Lib.hid (S.out.lit (.cells #[.int .i64 0] 3))
              have hL : Blk (V2.alloc (.cells #[.int .i64 0] 3)) V2.heap.size 3 #[.int .i64 0] := Blk.new _ _ _
              replace hL := Lib.hid (Src.one hL rfl)
              have kk1 := Lib.hid (show d.past.length + 1 ≤ maxLen by have := hsl.out; unfold maxLen; omega)
              have kk2 := Lib.hid (show (d.past.length + 1) * 8 ≤ 140737488355328 by have := hsl.out; omega)
              have kk3 := Lib.hid (show w.heap.size ≤ (V2.alloc (.cells #[.int .i64 0] 3)).heap.size from S.out.gr.size)
              go_wp2_with (at_builtin; refine wpList_app _ rfl (.tmp 54) (.tmp 55) _ rfl w.heap.size 3 ii0 _ 8 Try.underlying24 hii hzi0 hzi1 hzi2 rfl (.slice X5 d.past.length k5) d.past.length (d.past.map (Value.int .i64)) rfl S.out.past (some ⟨V2.heap.size, 0, none⟩) 1 1 _ rfl hL.out kk1.out kk2.out kk3.out ?_; intro v6 w6 ho6 hg6 hat6; obtain ⟨Y5, j5, rfl, -, -⟩ := World.ownsRow.form ho6 (by omega); obtain ⟨hB6, -⟩ := S.out.mid hg6; obtain ⟨⟨x0', x1', x2', x3', x4'⟩, ⟨f0, f1, f2, f3, f4⟩⟩ := blk5 hB6; replace S := Lib.hid (S.out.snoc ho6 hg6 hat6 (by have := hsl.out; omega)); replace hB6 := Lib.hid hB6; clear hg6 ho6 hat6; refine Hid.out ?_)
              refine Lib.hid ?_
              go_upto_region 17 with (fail)
              generalize w6.setCell ⟨b, 4, none⟩ (.slice (some ⟨Y5, 0, none⟩) (d.past.length + 1) j5) = V4 at *
              clear x0 x1 x2 x3 x4 x0' x1' x2' x3' x4' f0 f1 f2 f3 f4 hB6 hL
              obtain ⟨⟨x0, x1, x2, x3, x4⟩, -⟩ := blk5 S.out.box
              obtain ⟨⟨z0, z1, z2, z3, z4⟩, ⟨f0, f1, f2, f3, f4⟩⟩ := blk5 S.out.res
              have HF := fun u0 u1 u2 u3 u4 => S.out.finish (p := p) (u0 := u0) (u1 := u1) (u2 := u2) (u3 := u3) (u4 := u4) (by omega)
              replace HF := Lib.hid HF
              clear S
              go_wp2
              refine bodyPost_ret (v := .agg #[.slice X1 d.t.us.length k1, .slice X2 d.t.bs.length k2, .slice X3 d.t.ns.length k3, .int .i64 d.now, .slice (some ⟨Y5, 0, none⟩) (d.past.length + 1) j5]) (by simp [results, Try.results27, go_sem, z0, z1, z2, z3, z4]) rfl ?_
              exact HF.out _ _ _ _ _
            · have hbe1 : (k9 == 1) = false := by simpa using h91
              obtain ⟨⟨z0, z1, z2, z3, z4⟩, ⟨f0, f1, f2, f3, f4⟩⟩ := blk5 S.out.res
              have HF := fun u0 u1 u2 u3 u4 => S.out.finish0 (p := p) (u0 := u0) (u1 := u1) (u2 := u2) (u3 := u3) (u4 := u4) (by omega)
              replace HF := Lib.hid HF
              clear S
              go_wp2
              refine bodyPost_ret (v := .agg #[.slice none 0 0, .slice none 0 0, .slice none 0 0, .int .i64 0, .slice none 0 0]) (by simp [results, Try.results27, go_sem, z0, z1, z2, z3, z4]) rfl ?_
              exact HF.out _ _ _ _ _
      · have hk' : 0 < k := by omega
        obtain ⟨k', hk1⟩ : ∃ k' : Nat, k = k' + 1 := ⟨k - 1, by omega⟩
        have e7 : IntKind.i64.wrap ((k : Int) - 1) = (k' : Int) := by rw [IntWalk.i64_in _ (by omega)]; omega
        replace hk1 := Lib.hid hk1
        go_upto_region 7 with (fail)
        replace S := Lib.hid (S.out.below (Below.refl _ _).drew)
        have hgw : g < wr.heap.size := by have := S.out.rd.lt; simpa using this
        refine wp_region_any (by kernel_rfl) ?_
        refine wpAny_inv (Inv := fun l a w' => ∃ (s8 s9 s33 s34 s35 s36 s37 s38 s39 : Value), a = ⟨#[.pointer (some ⟨g, 0, none⟩), .int .i64 n, undef, undef, .pointer (some ⟨w.heap.size, 0, none⟩), .pointer (some ⟨b, 0, none⟩), u6, .int .i64 (k : Int), s8, s9, u10, u11, u12, u13, u14, u15, u16, u17, u18, u19, u20, u21, u22, u23, u24, u25, u26, .pointer (some ⟨g, 0, none⟩), .int .i64 (K : Int), .int .i64 (k : Int), .bool true, u31, u32, s33, s34, s35, s36, s37, s38, s39, u40, u41, u42, u43, u44, u45, undef, u47, undef, u49, u50, undef, u52, u53, u54, u55, u56, u57, u58], []⟩ ∧ DKL wr.drew g q (.agg #[.slice X1 d.t.us.length k1, .slice X2 d.t.bs.length k2, .slice X3 d.t.ns.length k3, .int .i64 d.now, .slice X5 d.past.length k5]) (d.past.length + 1) l w' s8 s9 s33 s34 s35 s36 s37 s38 s39) (ord_spec (by kernel_rfl)) ?_ ?_ _ _ _ _ rfl (by decide) ?_
        · rintro l a w' ⟨s8, s9, s33, s34, s35, s36, s37, s38, s39, rfl, hF⟩ hsz hl
          have hl' : ∀ j, j < 10 → l.getD j false = true := hl
          obtain ⟨q8, u0, u1, u2, u3, u4, d', e8, hq8, hbx, how, hsn⟩ := hF.f8 (hl' 8 (by decide))
          subst e8
          obtain ⟨bb, e9⟩ := hF.f9 (hl' 9 (by decide))
          subst e9
          obtain ⟨r, hr, hrq⟩ := hF.dr
          have hrq : r ≤ q + 20 := by split at hrq <;> omega
          have hwsz : w.heap.size ≤ wr.drew.heap.size := S.out.gr.size
          replace S := Lib.hid (S.out.pick hr hF.gr)
          obtain ⟨Y1, j1, Y2, j2, Y3, j3, Y5, j5, e1, -⟩ := how.dsk.ex
          injection e1 with e1
          have e1 : #[u0, u1, u2, u3, u4] = (_ : Array Value) := e1
          injection e1 with e1
          simp only [List.cons.injEq, and_true] at e1
          obtain ⟨rfl, rfl, rfl, rfl, rfl⟩ := e1
          have how2 := how.mono (B' := w.heap.size) (hwsz)
          have S2 := Lib.hid (S.out.put how2 hsn.s)
          have hln := hsn.l
          obtain ⟨⟨r0, r1, r2, r3, r4⟩, -⟩ := blk5 hbx
          obtain ⟨⟨x0, x1, x2, x3, x4⟩, ⟨y0, y1, y2, y3, y4⟩⟩ := blk5 S.out.box
          clear hF hl hl' hr how how2 hbx hsn
          replace hln := Lib.hid hln
          cases bb
          · go_wp2
            go_roundw
            case rel => exact ⟨k', _, _, _, _, _, _, _, _, _, _, by go_num, S.out, by have := hsl.out; have := hk1.out; omega, by have := hk1.out; omega⟩
            case measure => have := hk1.out; simp [intOf]; omega
          · go_wp2
            go_roundw
            case rel => exact ⟨k', _, _, _, _, _, _, _, _, _, _, by go_num, S2.out, by have := hsl.out; have := hln.out; have := hk1.out; omega, by have := hk1.out; omega⟩
            case measure => have := hk1.out; simp [intOf]; omega
        · rintro l a w' ⟨s8, s9, s33, s34, s35, s36, s37, s38, s39, rfl, hF⟩ hsz i o hlt ho hun hall
          have hlt' : i < 10 := hlt
          refine wpOp_step ho (fun K' hK => ?_)
          replace hK := Lib.hid hK
          obtain rfl | rfl | rfl | rfl | rfl | rfl | rfl | rfl | rfl | rfl : i = 0 ∨ i = 1 ∨ i = 2 ∨ i = 3 ∨ i = 4 ∨ i = 5 ∨ i = 6 ∨ i = 7 ∨ i = 8 ∨ i = 9 := by omega
          · simp only [List.getElem?_toArray, List.getElem?_cons_zero, Option.some.injEq] at ho
            subst ho
            obtain ⟨r, hr', hq'⟩ := hF.dr
            have S2 := S.out.pick hr' hF.gr
            obtain ⟨x0, x1, x2, x3, x4⟩ := (blk5 S2.box).1
            clear S2 hr' hq'
            replace hF := Lib.hid hF
            clear hall
            go_simp
            refine hK.out _ _ ?_
            exact ⟨_, _, _, _, _, _, _, _, _, rfl, hF.out.up0 rfl⟩
          · simp only [List.getElem?_toArray, List.getElem?_cons_succ, List.getElem?_cons_zero, Option.some.injEq] at ho
            subst ho
            replace hF := Lib.hid hF
            clear hall
            go_simp
            refine hK.out _ _ ?_
            exact ⟨_, _, _, _, _, _, _, _, _, rfl, hF.out.up1 rfl⟩
          · simp only [List.getElem?_toArray, List.getElem?_cons_succ, List.getElem?_cons_zero, Option.some.injEq] at ho
            subst ho
            have e1 := hF.f1 (hall ⟨1, Ground.data⟩ (by simp) rfl)
            subst e1
            obtain ⟨r, hr', hq'⟩ := hF.dr
            rw [hun, if_neg (by decide)] at hq'
            replace hF := Lib.hid hF
            clear hall
            go_simp
            go_at_call 56
            refine (deed_any g r _ hr' (by omega)).mono ?_
            rintro e V ⟨kd, m, r2, rfl, hkd, hm, hr2, hq2, hg⟩
            go_simp
            refine hK.out _ _ ?_
            exact ⟨_, _, _, _, _, _, _, _, _, rfl, hF.out.up2 hsz ⟨kd, m, rfl⟩ hg ⟨r2, hr2, by omega⟩⟩
          · simp only [List.getElem?_toArray, List.getElem?_cons_succ, List.getElem?_cons_zero, Option.some.injEq] at ho
            subst ho
            have e1 := hF.f0 (hall ⟨0, Ground.data⟩ (by simp) rfl)
            subst e1
            obtain ⟨kd, m, e2⟩ := hF.f2 (hall ⟨2, Ground.data⟩ (by simp) rfl)
            subst e2
            obtain ⟨r, hr', hq'⟩ := hF.dr
            have S2 := S.out.pick hr' hF.gr
            have hgs := hF.gr.size
            have KK := Lib.hid (specDeskDo_any _ d ⟨kd, m⟩ w' S2.own.dsk S2.sm.fine)
            have hsm := Lib.hid S2.sm
            clear S2 hr' hq'
            replace hF := Lib.hid hF
            clear hall
            go_simp
            go_at_call 15
            refine KK.out.mono ?_
            rintro e V ⟨v, rfl, -, ho', hb'⟩
            have h7 : d.past.length ≤ 7 := by have := hsl.out; omega
            go_simp
            refine hK.out _ _ ?_
            exact ⟨_, _, _, _, _, _, _, _, _, rfl, hF.out.up3 ⟨_, _, _, rfl, (ho' h7).mono hgs, do_small hsm.out _, do_len _ _⟩ hb'⟩
          · simp only [List.getElem?_toArray, List.getElem?_cons_succ, List.getElem?_cons_zero, Option.some.injEq] at ho
            subst ho
            have e1 := hF.f3 (hall ⟨3, Ground.data⟩ (by simp) rfl)
            obtain ⟨x, b', d', e1, ho', hs'⟩ := e1
            subst e1
            replace ho' := Lib.hid ho'
            replace hF := Lib.hid hF
            clear hall
            go_simp
            refine hK.out _ _ ?_
            exact ⟨_, _, _, _, _, _, _, _, _, rfl, hF.out.up4 ⟨x, b', d', rfl, ho'.out, hs'⟩⟩
          · simp only [List.getElem?_toArray, List.getElem?_cons_succ, List.getElem?_cons_zero, Option.some.injEq] at ho
            subst ho
            obtain ⟨x, b', d', e1, ho', hs'⟩ := hF.f4 (hall ⟨4, Ground.data⟩ (by simp) rfl)
            subst e1
            replace ho' := Lib.hid ho'
            replace hF := Lib.hid hF
            clear hall
            go_simp
            refine hK.out _ _ ?_
            exact ⟨_, _, _, _, _, _, _, _, _, rfl, hF.out.up5 ⟨d', ho'.out, hs'⟩⟩
          · simp only [List.getElem?_toArray, List.getElem?_cons_succ, List.getElem?_cons_zero, Option.some.injEq] at ho
            subst ho
            obtain ⟨x, b', d', e1, -, -⟩ := hF.f4 (hall ⟨4, Ground.data⟩ (by simp) rfl)
            subst e1
            replace hF := Lib.hid hF
            clear hall
            go_simp
            refine hK.out _ _ ?_
            exact ⟨_, _, _, _, _, _, _, _, _, rfl, hF.out.up6 ⟨b', rfl⟩⟩
          · simp only [List.getElem?_toArray, List.getElem?_cons_succ, List.getElem?_cons_zero, Option.some.injEq] at ho
            subst ho
            replace hF := Lib.hid hF
            clear hall
            go_simp
            refine hK.out _ _ ?_
            exact ⟨_, _, _, _, _, _, _, _, _, rfl, hF.out.up7 hsz hun⟩
          · simp only [List.getElem?_toArray, List.getElem?_cons_succ, List.getElem?_cons_zero, Option.some.injEq] at ho
            subst ho
            obtain ⟨d', ho', hs'⟩ := hF.f5 (hall ⟨5, Ground.data⟩ (by simp) rfl)
            obtain ⟨Y1, j1, Y2, j2, Y3, j3, Y5, j5, e1, -⟩ := ho'.dsk.ex
            subst e1
            have hA := (hall ⟨7, Ground.data⟩ (by simp) rfl)
            obtain ⟨q8, e3, hq', hh⟩ := hF.f7 hA
            subst e3
            have hz := hh hun
            obtain ⟨⟨r0, r1, r2, r3, r4⟩, ⟨f0, f1, f2, f3, f4⟩⟩ := blk5 hz
            replace hz := Lib.hid hz
            replace ho' := Lib.hid ho'
            replace hs' := Lib.hid hs'
            replace hF := Lib.hid hF
            clear hall
            go_simp
            refine hK.out _ _ ?_
            exact ⟨_, _, _, _, _, _, _, _, _, rfl, hF.out.up8 hsz hA rfl hq' hz.out ho'.out hs'.out⟩
          · simp only [List.getElem?_toArray, List.getElem?_cons_succ, List.getElem?_cons_zero, Option.some.injEq] at ho
            subst ho
            obtain ⟨b', e1⟩ := hF.f6 (hall ⟨6, Ground.data⟩ (by simp) rfl)
            subst e1
            replace hF := Lib.hid hF
            clear hall
            go_simp
            refine hK.out _ _ ?_
            exact ⟨_, _, _, _, _, _, _, _, _, rfl, hF.out.up9 ⟨b', rfl⟩⟩
        · exact ⟨_, _, _, _, _, _, _, _, _, rfl, (fun h => by simp at h), (fun h => by simp at h), (fun h => by simp at h), (fun h => by simp at h), (fun h => by simp at h), (fun h => by simp at h), (fun h => by simp at h), (fun h => by simp at h), (fun h => by simp at h), (fun h => by simp at h), (fun h => by simp at h), ⟨q, S.out.rd, by simp⟩, World.grownBy.refl _ _, by simpa using hgw⟩
end Go.Proofs.Ytjnlpknjdclalaa
