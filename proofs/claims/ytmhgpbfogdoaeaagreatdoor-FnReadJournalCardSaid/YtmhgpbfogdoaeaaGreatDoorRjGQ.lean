/-
  GQ: DrawP DTng0 DrawDd DrawKs DrawDk DrawDs DrawKr OffM DrawLn DrawDl.
-/
import Derived.Test.YtmhgpbfogdoaeaaGreatDoorRjGA
import Derived.Test.YtmhgpbfogdoaeaaGreatDoorRjGZ
import Derived.Test.YtmhgpbfogdoaeaaGreatDoorRjGC
import Derived.Test.YtmhgpbfogdoaeaaGreatDoorRjRds
import Derived.Test.YtmhgpbfogdoaeaaGreatDoorRjInv
import Derived.Test.YtmhgpbfogdoaeaaGreatDoorRjGX
import Derived.IntWalk
import Derived.Test.YtmhgpbfogdoaeaaGreatDoorRjGK
import Derived.Test.YtmhgpbfogdoaeaaGreatDoorRjGL
import Derived.Test.YtmhgpbfogdoaeaaGreatDoorRjDdsB
import Derived.Test.YtmhgpbfogdoaeaaGreatDoorRjGV
import Derived.Test.YtmhgpbfogdoaeaaGreatDoorRjGN
/- DrawP -/
namespace Go.Proofs.YtmhgpbfogdoaeaaGreatDoor
open Go.RowKit

end Go.Proofs.YtmhgpbfogdoaeaaGreatDoor

/- DTng0 -/
namespace Go.Proofs.YtmhgpbfogdoaeaaGreatDoor
open Go.RowKit

theorem odd0_any (g p : Nat) (w : World) (h : Rd w g p) :
    Calls Tryz.prog 48 #[.pointer (some ⟨g, 0, none⟩), .int .i64 0] w (OddPost g p w) := by
  have HF : ∀ t, OddPost g p w (.returned (.bool t)) w := fun t => ⟨t, p, rfl, Nat.le_succ _, h, World.grownBy.refl w _, rfl⟩
  replace HF := Lib.hid HF
  clear h
  go_enter Tryz.func48, Tryz.ntmps48
  go_wp2
  go_ret
  exact HF.out _

set_option maxRecDepth 100000 in
set_option maxHeartbeats 16000000 in
theorem drawn0_any (g p : Nat) (w : World) (h : Rd w g p) (hp : p ≤ 1000) :
    Calls Tryz.prog 97 #[.pointer (some ⟨g, 0, none⟩), .int .i64 0] w (RetDrawn w g p) := by
  obtain ⟨is0, his, hzs0, hzs1, hzs2⟩ := info_parts str_info
  obtain ⟨ii0, hii, hzi0, hzi1, hzi2⟩ := info_parts int_info0
  have HR := Lib.hid h
  have HP := Lib.hid (pick_any g p 6 (w.alloc zeroTng) (h.alloc' _) (by omega) (by omega) (by omega))
  clear h
  go_enter Tryz.func97, Tryz.ntmps97
  go_wp2_with (fail)
  refine HP.out.mono ?_
  rintro e w1 ⟨k1, rfl, hk1, hr1, hg1, -⟩
  clear HP
  replace hr1 := Lib.hid hr1
  replace hg1 := Lib.hid hg1
  go_wp2_with (fail)
  refine (tongues_any k1 w1).mono ?_
  rintro e w2 ⟨v, t, rfl, ho, hsm, hu1, hb⟩
  obtain ⟨v1, v2, v3, rfl, o1, o2, o3, hap⟩ := ho.ex
  obtain ⟨A1, c1, rfl, -⟩ := o1.strs
  obtain ⟨A2, c2, rfl, -⟩ := o2.ints
  obtain ⟨A3, c3, rfl, -⟩ := o3.strs
  have HD := DSt.start HR.out hr1.out hg1.out ho hb
  have HSM := Lib.hid (And.intro hsm hu1)
  have hPk := fun W q (hr : Rd W g q) (hq : q ≤ 5000) (m : Int) (hm : 1 ≤ m) (hm' : m ≤ 1000) => pick_any g q m W hr (by omega) (by omega) (by omega)
  replace hPk := Lib.hid hPk
  replace HD := Lib.hid HD
  have hws : w.heap.size < w2.heap.size := HD.out.ge
  clear hr1 hg1 ho hsm hb hap o1 o2 o3 HR
  go_upto_region 2 with (fail)
  generalize hW3 : w2.alloc (.cells #[.slice A1 t.us.length c1, .slice A2 t.bs.length c2, .slice A3 t.ns.length c3] 31) = W3 at *
  generalize w2.heap.size = b at *
  clear hW3
  go_wp2_with (fail)
  refine (hPk.out _ _ HD.out.rd (by omega) 4 (by omega) (by omega)).mono ?_
  rintro e W4 ⟨k2, rfl, hk2, hr2, hg2, -⟩
  have HD4 := Lib.hid (HD.out.pick hr2 hg2)
  go_upto_if 13 with (fail)
  go_cut [6, 7] (fun s6 s7 wx => Mid w g p wx b)
  case first =>
    by_cases hk0 : k2 = 0
    · subst hk0
      have hb5 := HD4.out.blk
      obtain ⟨z0, z1, z2, f0, f1, f2⟩ := blk3 hb5
      have hbW : b < W4.heap.size := hb5.lt
      have hbeq : ((0 : Int) == 0) = true := rfl
      go_upto_region 4 with (fail)
      have HD5 := Lib.hid HD4.out.reset
      clear hb5 z0 z1 z2 f0 f1 f2 hbW hbeq hk2 hr2 hg2
      generalize hA5 : W4.heap.size = a5 at *
      generalize (((W4.setCell ⟨b, 0, none⟩ (.slice none 0 0)).setCell ⟨b, 1, none⟩ (.slice (some ⟨a5, 0, none⟩) 1 1)).setCell ⟨b, 2, none⟩ (.slice none 0 0)).alloc (.cells #[.int .i64 1] 3) = W5 at *
      clear hA5
      go_wp2_with (fail)
      refine (hPk.out _ _ HD5.out.rd (by omega) 4 (by omega) (by omega)).mono ?_
      rintro e W6 ⟨k3, rfl, hk3, hr6, hg6, -⟩
      have HD6 := Lib.hid (HD5.out.pick hr6 hg6)
      obtain ⟨M, hM, hM1, hM4⟩ : ∃ M : Nat, 1 + k3 = (M : Int) ∧ 1 ≤ M ∧ M ≤ 4 := ⟨(1 + k3).toNat, by omega, by omega, by omega⟩
      clear HD4 HD5 hr6 hg6
      have hw3 : IntKind.i64.wrap (1 + k3) = (M : Int) := by rw [← hM]; exact IntWalk.i64_in _ (by omega)
      have hk3a := hk3.1
      have hk3b : k3 ≤ 3 := by omega
      replace hM := Lib.hid hM
      go_wp2
      go_loopw [7] (fun s7 wr => ∃ (j q : Nat) (us : List ByteArray) (v1 v2 v3 : Value), j ≤ M ∧ s7 = .int .i64 j ∧ DSt w g wr b ⟨us, [1], []⟩ v1 v2 v3 q ∧ us.length = j ∧ (∀ x ∈ us, x.size ≤ 16) ∧ q ≤ p + 3 + j) (fun s7 _ => M - (intOf s7).toNat)
      case atStart => exact ⟨0, _, [], _, _, _, Nat.zero_le _, rfl, HD6.out, rfl, by simp, by omega⟩
      case round =>
        obtain ⟨_, q, us, v1, v2, v3, hj, rfl, hd, rfl, hus, hq⟩ := hrel
        by_cases hlt : us.length < M
        · have hX := hd.blk
          obtain ⟨B1, d1, rfl, -⟩ := hd.o1.strs
          obtain ⟨z0, z1, z2, f0, f1, f2⟩ := blk3 hX
          have hbW : b < wr.heap.size := hX.lt
          have e1 : IntKind.i64.wrap ((us.length : Int) + 1) = (us.length : Int) + 1 := IntWalk.i64_in _ (by omega)
          have e2 : (0 : Int) ≤ (us.length : Int) := by omega
          have e3 : (us.length : Int) ≤ (us.length : Int) + 1 := by omega
          have e4 : (us.length : Int) + 1 ≤ 8 := by omega
          replace hd := Lib.hid hd
          have k1 := Lib.hid (show us.length + 1 ≤ maxLen by unfold maxLen; omega)
          have k2 := Lib.hid (show (us.length + 1) * 16 ≤ 140737488355328 by omega)
          clear hX
          go_wp2
          go_region_law (first
              | (refine step_app _ (by rfl) (.tmp 25) (.tmp 36) _ (by rfl) w.heap.size 9 is0 _ 16 Tryz.underlying28 his hzs0 hzs1 hzs2 rfl (.slice B1 us.length d1) us.length (us.map Value.string) (by rfl) (by first | exact (HD7.out.alloc _).o1 | exact ((HD7.out.alloc _).alloc _).o1) (some ⟨_, 0, none⟩) 1 1 [.string _] (by rfl) (Src.one (blk_new_at _ (by simp)) rfl) k1.out k2.out (by have := HD7.out.gr.size; simp; omega) ?_; intro v8 w8 ho8 hg8 hat8; obtain ⟨u8, hu8, hul8, hus8⟩ := own_snoc2 ho8 hus (by simp [ByteArray.size_append, ByteArray.size_extract]; omega); obtain ⟨B8, d8, rfl, -⟩ := hu8.strs; have HD8 := (by first | exact (HD7.out.alloc _).app1 hu8 hg8 hat8 | exact ((HD7.out.alloc _).alloc _).app1 hu8 hg8 hat8); replace hul8 := Lib.hid hul8; obtain ⟨z08, -, -, f08, -, -⟩ := blk3 (by first | exact (HD7.out.alloc _).mid1 hg8 | exact ((HD7.out.alloc _).alloc _).mid1 hg8); replace HD8 := Lib.hid HD8; clear ho8 hu8 hg8 hat8)
              | (go_simp; go_at_call 41; refine (hPk.out _ q (by first | exact hd.out.drew.rd | exact (hd.out.alloc _).drew.rd) (by omega) 3 (by omega) (by omega)).mono ?_; rintro e W7 ⟨k7, rfl, hk7, hr7, hg7, -⟩; obtain ⟨kk, rfl⟩ : ∃ kk : Nat, k7 = (kk : Int) := ⟨k7.toNat, by omega⟩; have hkk : kk < 3 := (by omega); obtain ⟨y, hy, hys, hy2⟩ := pick3 ⟨#[]⟩ ⟨#[97]⟩ ⟨#[98]⟩ 1 kk hkk (by decide) (by decide) (by decide); have HD7 := (by first | exact (hd.out.drew.pick hr7 hg7) | exact ((hd.out.alloc _).drew.pick hr7 hg7)); (try have hc7 : W7.cell? ⟨wr.heap.size, kk, none⟩ = some (.string y) := (((Blk.new wr _ _).drew.grown hg7 (fun e => by have e' := Option.some.inj e; have := hd.out.gr.size; have := hd.out.glt; omega)).cell kk).trans hy); obtain ⟨z0', -, -, f0', -, -⟩ := blk3 HD7.blk; have hbW7 : b < W7.heap.size := HD7.blk.lt; have hkk1 : (kk : Int) < 3 := (by omega); have hkk0 : (0 : Int) ≤ (kk : Int) := (by omega); have hcat : ¬ (9223372036854775807 < min (us.length + 1) 8 - us.length + y.size) := (by omega); replace HD7 := Lib.hid HD7; clear hr7 hg7 hk7))
          all_goals
            clear z0 z1 z2 f0 f1 f2 hbW z0' f0' hbW7 z08 f08 e1 e2 e3 e4 hcat hkk0 hkk1 hy hy2 HD7 hd
            go_wp2
            go_roundw
            case rel => exact ⟨u8.length, q+1, u8, _, _, _, by rw [hul8.out]; omega, by rw [hul8.out]; go_num, HD8.out, rfl, hus8, by rw [hul8.out]; omega⟩
            case measure => simp [intOf]; omega
        · have hlM : us.length = M := by omega
          replace hlM := Lib.hid hlM
          replace hd := Lib.hid hd
          go_wp2_with (fail)
          refine (hPk.out _ q hd.out.rd (by omega) 2 (by omega) (by omega)).mono ?_
          rintro e W9 ⟨k9, rfl, hk9, hr9, hg9, -⟩
          have HD9 := Lib.hid (hd.out.pick hr9 hg9)
          clear hd hr9 hg9
          by_cases hk90 : k9 = 0
          · subst hk90
            have hbeq : ((0 : Int) == 0) = true := rfl
            have hX9 := HD9.out.blk
            obtain ⟨B2, d2, rfl, -⟩ := HD9.out.o2.ints
            obtain ⟨B3, d3, rfl, -⟩ := HD9.out.o3.strs
            obtain ⟨z0, z1, z2, f0, f1, f2⟩ := blk3 hX9
            have hbW : b < W9.heap.size := hX9.lt
            have e1 : IntKind.i64.wrap ((M : Int) + 1) = (M : Int) + 1 := IntWalk.i64_in _ (by omega)
            clear hX9
            simp only [List.length_cons, List.length_nil, Nat.zero_add] at z1 z2
            go_wp2_with (at_builtin; refine wpList_app _ rfl (.tmp 43) (.tmp 46) _ rfl w.heap.size 3 ii0 _ 8 Tryz.underlying29 hii hzi0 hzi1 hzi2 rfl (.slice B2 1 d2) 1 ([1].map (Value.int .i64)) rfl (HD9.out.alloc _).o2 (some ⟨_, 0, none⟩) 1 1 [.int .i64 _] rfl (Src.one (blk_new_at _ rfl) rfl) (by unfold maxLen; omega) (by omega) (by have := HD9.out.gr.size; simp; omega) ?_; intro v10 w10 ho10 hg10 _; obtain ⟨b10, hb10, hbl10, hbf10⟩ := own_snocI ho10 (by simp) (by omega); obtain ⟨B10, d10, rfl, -⟩ := hb10.ints; obtain ⟨z010, z110, z210, f010, f110, f210⟩ := blk3 ((HD9.out.alloc _).mid2 hg10); have HD10 := Lib.hid ((HD9.out.alloc _).app2 hb10 hg10); replace hbl10 := Lib.hid hbl10; clear ho10 hb10 hg10)
            clear z0 z1 z2 f0 f1 f2 hbW
            replace hbf10 := Lib.hid hbf10
            generalize w10.setCell ⟨b, 1, none⟩ (.slice B10 b10.length d10) = W11 at *
            clear z010 z110 z210 f010 f110 f210
            obtain ⟨z0, z1, z2, f0, f1, f2⟩ := blk3 HD10.out.blk
            simp only [List.length_nil] at z2
            have hbW : b < W11.heap.size := HD10.out.blk.lt
            have k1 := Lib.hid (show 0 + 1 ≤ maxLen by unfold maxLen; omega)
            have k2 := Lib.hid (show (0 + 1) * 16 ≤ 140737488355328 by omega)
            go_region_law (first
              | (refine step_app _ (by rfl) (.tmp 50) (.tmp 57) _ (by rfl) w.heap.size 9 is0 _ 16 Tryz.underlying28 his hzs0 hzs1 hzs2 rfl (.slice B3 0 d3) 0 (([] : List ByteArray).map Value.string) (by rfl) (by first | exact (HD12.out.alloc _).o3 | exact ((HD12.out.alloc _).alloc _).o3) (some ⟨_, 0, none⟩) 1 1 [.string _] (by rfl) (Src.one (blk_new_at _ (by simp)) rfl) k1.out k2.out (by have := HD12.out.gr.size; simp; omega) ?_; intro v13 w13 ho13 hg13 hat13; obtain ⟨u13, hu13, hul13, hus13⟩ := own_snoc2 (m := 16) ho13 (by simp) (by rw [ByteArray.size_append]; show 1 + _ ≤ 16; omega); obtain ⟨B13, d13, rfl, -⟩ := hu13.strs; have HD13 := (by first | exact (HD12.out.alloc _).app3 hu13 hg13 hat13 | exact ((HD12.out.alloc _).alloc _).app3 hu13 hg13 hat13); replace hul13 := Lib.hid hul13; obtain ⟨z013, z113, z213, f013, f113, f213⟩ := blk3 (by first | exact (HD12.out.alloc _).mid3 hg13 | exact ((HD12.out.alloc _).alloc _).mid3 hg13); replace HD13 := Lib.hid HD13; clear ho13 hu13 hg13 hat13)
              | (go_simp; go_at_call 41; refine (hPk.out _ (q+1) (by first | exact HD10.out.drew.rd | exact (HD10.out.alloc _).drew.rd) (by omega) 2 (by omega) (by omega)).mono ?_; rintro e W12 ⟨k7, rfl, hk7, hr7, hg7, -⟩; obtain ⟨kk, rfl⟩ : ∃ kk : Nat, k7 = (kk : Int) := ⟨k7.toNat, by omega⟩; have hkk : kk < 2 := (by omega); obtain ⟨y, hy, hys, hy2⟩ := pick2 ⟨#[]⟩ ⟨#[97]⟩ 1 kk hkk (by decide) (by decide); have HD12 := (by first | exact (HD10.out.drew.pick hr7 hg7) | exact ((HD10.out.alloc _).drew.pick hr7 hg7)); (try have hc7 : W12.cell? ⟨W11.heap.size, kk, none⟩ = some (.string y) := (((Blk.new W11 _ _).drew.grown hg7 (fun e => by have e' := Option.some.inj e; have := HD10.out.gr.size; have := HD10.out.glt; omega)).cell kk).trans hy); obtain ⟨z0', z1', z2', f0', f1', f2'⟩ := blk3 HD12.blk; have hbW7 : b < W12.heap.size := HD12.blk.lt; have hkk1 : (kk : Int) < 2 := (by omega); have hkk0 : (0 : Int) ≤ (kk : Int) := (by omega); have hcat : ¬ (9223372036854775807 < 1 + y.size) := (by omega); replace HD12 := Lib.hid HD12; clear hr7 hg7 hk7))
            all_goals
              have HM13 : Mid w g p _ b := ⟨_, _, _, _, _, HD13.out, ⟨by show us.length ≤ 25; omega, by show b10.length ≤ 25; rw [hbl10.out]; simp, by show u13.length ≤ 25; rw [hul13.out]; simp, hbf10.out, fun x hx => by
                rcases List.mem_append.1 hx with h | h
                · exact hus x h
                · exact hus13 x h⟩, by show 1 ≤ us.length; omega, by omega⟩
              replace HM13 := Lib.hid HM13
              clear z0 z1 z2 f0 f1 f2 hbW z0' z1' z2' f0' f1' f2' hbW7 z013 z113 z213 f013 f113 f213 hcat hkk0 hkk1 hy hy2 HD12 HD10 HD9 HD13
              go_wp2
              go_meet
              exact HM13.out
          · have hk90' : (k9 == 0) = false := by simpa using hk90
            have HM9 : Mid w g p W9 b := ⟨_, _, _, _, _, HD9.out, ⟨by show us.length ≤ 25; omega, by simp, by simp, by simp, fun x hx => hus x (by simpa using hx)⟩, by show 1 ≤ us.length; omega, by omega⟩
            replace HM9 := Lib.hid HM9
            go_wp2
            go_meet
            exact HM9.out
    · have hk0' : (k2 == 0) = false := by simpa using hk0
      have HM4 : Mid w g p W4 b := ⟨_, _, _, _, _, HD4.out, HSM.out.1, HSM.out.2, by omega⟩
      replace HM4 := Lib.hid HM4
      go_wp2
      go_meet
      exact HM4.out
  case rest =>
    obtain ⟨t', a1, a2, a3, q, hd, hs, hu, hq⟩ := hcut
    have hO := odd0_any g q wc hd.rd
    obtain ⟨B1, d1, rfl, -⟩ := hd.o1.strs
    obtain ⟨B2, d2, rfl, -⟩ := hd.o2.ints
    obtain ⟨B3, d3, rfl, -⟩ := hd.o3.strs
    replace hO := Lib.hid hO
    replace hd := Lib.hid hd
    replace hs := Lib.hid hs
    clear HD4 HSM
    go_wp2_with (fail)
    refine hO.out.mono ?_
    rintro e W1 ⟨bt, q1, rfl, hq1, hr1, hg1, -⟩
    have HD1 := hd.out.kept hr1 hg1 (fun r e => .inl (by cases e; rfl))
    clear hO hd hr1 hg1
    obtain ⟨z0, z1, z2, f0, f1, f2⟩ := blk3 HD1.blk
    obtain ⟨r0, r1, r2, e0, e1, e2⟩ := blk3 HD1.res
    have hbW := HD1.blk.lt
    have hgt := HD1.ge
    replace HD1 := Lib.hid HD1
    cases bt
    · go_wp2
      refine bodyPost_ret (v := .agg #[.slice B1 t'.us.length d1, .slice B2 t'.bs.length d2, .slice B3 t'.ns.length d3]) (by simp [results, Tryz.results97, go_sem, r0, r1, r2]) rfl ?_
      exact HD1.out.finish (hs.out.mono (by omega)) (by omega)
    · go_wp2_with (fail)
      refine (hPk.out _ q1 HD1.out.rd (by omega) 4 (by omega) (by omega)).mono ?_
      rintro e W2 ⟨k4, rfl, hk4, hr2, hg2, -⟩
      have HD2 := HD1.out.pick hr2 hg2
      clear HD1 hr2 hg2 z0 z1 z2 f0 f1 f2 r0 r1 r2 e0 e1 e2 hbW
      obtain ⟨z0, z1, z2, f0, f1, f2⟩ := blk3 HD2.blk
      obtain ⟨r0, r1, r2, e0, e1, e2⟩ := blk3 HD2.res
      have hbW := HD2.blk.lt
      have hwW := HD2.res.lt
      have hgl := HD2.glt
      replace HD2 := Lib.hid HD2
      have hcase : k4 = 0 ∨ k4 = 1 ∨ k4 = 2 ∨ k4 = 3 := by omega
      rcases hcase with rfl | rfl | rfl | rfl
      · go_wp2
        refine bodyPost_ret (v := .agg #[.slice none 0 0, .slice none 0 0, .slice none 0 0]) (by simp [results, Tryz.results97, go_sem, r0, r1, r2]) rfl ?_
        exact HD2.out.finish0 (by omega)
      · -- the first unit becomes another word
        have ho := HD2.out.o1
        obtain ⟨gb, cap, ev, hgb0, hgb⟩ := World.ownsRow.form ho (by omega)
        cases ev
        have cu := World.ownsRow.cellAt ho 0 (by omega)
        rw [List.getElem?_map, List.getElem?_eq_getElem (by omega : 0 < t'.us.length)] at cu
        simp only [Option.map_some] at cu
        have fu := World.ownsRow.frozenAt ho 0
        obtain ⟨x0, hx0⟩ : ∃ x0, t'.us[0] = x0 := ⟨_, rfl⟩
        rw [hx0] at cu
        replace hx0 := Lib.hid hx0
        have hul : (0 : Int) < (t'.us.length : Int) := by omega
        have hul' : 0 < t'.us.length := by omega
        have hgbg : gb ≠ g := by omega
        have hgbb : gb ≠ b := fun e => own_blk_ne ho HD2.out.blk ne_string_tongue (by rw [e]; rfl)
        clear ho
        go_wp2_with (fail)
        go_region_law (first
          | (go_simp; go_at_call 41; refine (hPk.out _ (q1+1) (by first | exact HD2.out.drew.rd | exact (HD2.out.alloc _).drew.rd) (by omega) 3 (by omega) (by omega)).mono ?_; rintro e W3 ⟨k7, rfl, hk7, hr7, hg7, -⟩; obtain ⟨kk, rfl⟩ : ∃ kk : Nat, k7 = (kk : Int) := ⟨k7.toNat, by omega⟩; have hkk : kk < 3 := (by omega); obtain ⟨y, hy, hys, hy2⟩ := pick3 ⟨#[]⟩ ⟨#[65]⟩ ⟨#[111, 110, 101, 104, 117, 110, 100, 114, 101, 100]⟩ 10 kk hkk (by decide) (by decide) (by decide); have HD3 := (by first | exact (HD2.out.drew.pick hr7 hg7) | exact ((HD2.out.alloc _).drew.pick hr7 hg7)); (try have hc7 : W3.cell? ⟨W2.heap.size, kk, none⟩ = some (.string y) := (((Blk.new W2 _ _).drew.grown hg7 (fun e => by have e' := Option.some.inj e; have := HD2.out.gr.size; omega)).cell kk).trans hy); obtain ⟨z0', z1', z2', f0', f1', f2'⟩ := blk3 HD3.blk; have hbW7 : b < W3.heap.size := HD3.blk.lt; have hkk1 : (kk : Int) < 3 := (by omega); have hkk0 : (0 : Int) ≤ (kk : Int) := (by omega); have cu' : W3.cell? ⟨gb, 0, none⟩ = some (.string x0) := (by have := World.ownsRow.cellAt HD3.o1 0 (by omega); rw [List.getElem?_map, List.getElem?_eq_getElem (by omega : 0 < t'.us.length)] at this; simpa [hx0.out] using this); have fu' := World.ownsRow.frozenAt HD3.o1 0; have hgbW : gb < W3.heap.size := (HD3.o1.lt gb rfl).2; replace HD3 := Lib.hid HD3; clear hr7 hg7 hk7))
        all_goals
          have HD5 := HD3.out.set0 y
          have hs5 : SmallT 40 ⟨t'.us.set 0 y, t'.bs, t'.ns⟩ := ⟨by have := hs.out.us; simp; omega, by have := hs.out.bs; show t'.bs.length ≤ 40; omega, by have := hs.out.ns; show t'.ns.length ≤ 40; omega, hs.out.fit, fun x hx => by
            rcases List.mem_append.1 hx with h | h
            · rcases List.mem_or_eq_of_mem_set h with h | h
              · exact hs.out.size x (List.mem_append.2 (.inl h))
              · rw [h]; omega
            · exact hs.out.size x (List.mem_append.2 (.inr h))⟩
          clear cu fu cu' fu' z0 z1 z2 f0 f1 f2 z0' z1' z2' f0' f1' f2' r0 r1 r2 e0 e1 e2 hbW hbW7 hgbW hwW HD2 HD3 hy hy2 hkk0 hkk1
          generalize W3.setCell ⟨gb, 0, none⟩ (.string y) = W5 at *
          obtain ⟨z0, z1, z2, f0, f1, f2⟩ := blk3 HD5.blk
          obtain ⟨r0, r1, r2, e0, e1, e2⟩ := blk3 HD5.res
          have hbW := HD5.blk.lt
          have hwW := HD5.res.lt
          replace HD5 := Lib.hid HD5
          replace hs5 := Lib.hid hs5
          go_wp2
          refine bodyPost_ret (v := .agg #[.slice (some ⟨gb, 0, none⟩) t'.us.length d1, .slice B2 t'.bs.length d2, .slice B3 t'.ns.length d3]) (by simp [results, Tryz.results97, go_sem, r0, r1, r2, hwW]) rfl ?_
          first
            | exact HD5.out.finish hs5.out (by omega)
            | exact (HD5.out.finish hs5.out (by omega)).alloc' _
      · -- the first unit once more
        have ho := HD2.out.o1
        obtain ⟨gb, cap, ev, hgb0, hgb⟩ := World.ownsRow.form ho (by omega)
        cases ev
        have cu := World.ownsRow.cellAt ho 0 (by omega)
        rw [List.getElem?_map, List.getElem?_eq_getElem (by omega : 0 < t'.us.length)] at cu
        simp only [Option.map_some] at cu
        have hx16 := hs.out.size t'.us[0] (List.mem_append.2 (.inl (List.getElem_mem _)))
        have hul : (0 : Int) < (t'.us.length : Int) := by omega
        have hul' : 0 < t'.us.length := by omega
        have hu25 := hs.out.us
        have k1 := Lib.hid (show t'.us.length + 1 ≤ maxLen by unfold maxLen; omega)
        have k2 := Lib.hid (show (t'.us.length + 1) * 16 ≤ 140737488355328 by omega)
        generalize t'.us[0] = x0 at *
        clear ho
        go_wp2_with (fail)
        go_region_law (first
          | (refine step_app _ (by rfl) (.tmp 86) (.tmp 91) _ (by rfl) w.heap.size 9 is0 _ 16 Tryz.underlying28 his hzs0 hzs1 hzs2 rfl (.slice (some ⟨gb, 0, none⟩) t'.us.length d1) t'.us.length (t'.us.map Value.string) (by rfl) ((HD2.out.alloc _).drew.o1) (some ⟨_, 0, none⟩) 1 1 [.string x0] (by rfl) (Src.one (blk_new_at _ rfl).drew rfl) k1.out k2.out (by have := HD2.out.gr.size; simp; omega) ?_; intro v3 w3 ho3 hg3 hat3; obtain ⟨u8, hu8, hul8, hus8⟩ := own_snoc2 (m := 16) ho3 (fun y hy => hs.out.size y (List.mem_append.2 (.inl hy))) hx16; obtain ⟨B8, d8, rfl, -⟩ := hu8.strs; obtain ⟨z03, z13, z23, f03, f13, f23⟩ := blk3 ((HD2.out.alloc _).drew.mid1 hg3); have HD3 := ((HD2.out.alloc _).drew).app1 hu8 hg3 hat3; replace hul8 := Lib.hid hul8; replace hus8 := Lib.hid hus8; replace HD3 := Lib.hid HD3; clear ho3 hu8 hg3 hat3))
        all_goals
          have hs5 : SmallT 40 ⟨u8, t'.bs, t'.ns⟩ := ⟨by show u8.length ≤ 40; rw [hul8.out]; omega, by have := hs.out.bs; show t'.bs.length ≤ 40; omega, by have := hs.out.ns; show t'.ns.length ≤ 40; omega, hs.out.fit, fun x hx => by
            rcases List.mem_append.1 hx with h | h
            · exact hus8.out x h
            · exact hs.out.size x (List.mem_append.2 (.inr h))⟩
          replace hs5 := Lib.hid hs5
          clear cu
          clear z0 z1 z2 f0 f1 f2 r0 r1 r2 e0 e1 e2 hbW hwW z03 z13 z23 f03 f13 f23 HD2
          generalize w3.setCell ⟨b, 0, none⟩ (.slice B8 u8.length d8) = W5 at *
          obtain ⟨z0, z1, z2, f0, f1, f2⟩ := blk3 HD3.out.blk
          obtain ⟨r0, r1, r2, e0, e1, e2⟩ := blk3 HD3.out.res
          have hbW := HD3.out.blk.lt
          have hwW := HD3.out.res.lt
          go_wp2
          refine bodyPost_ret (v := .agg #[.slice B8 u8.length d8, .slice B2 t'.bs.length d2, .slice B3 t'.ns.length d3]) (by simp [results, Tryz.results97, go_sem, r0, r1, r2]) rfl ?_
          exact HD3.out.finish hs5.out (by omega)
      · -- a name more
        have hn25 := hs.out.ns
        have k1 := Lib.hid (show t'.ns.length + 1 ≤ maxLen by unfold maxLen; omega)
        have k2 := Lib.hid (show (t'.ns.length + 1) * 16 ≤ 140737488355328 by omega)
        go_wp2_with (at_builtin; refine wpList_app _ rfl (.tmp 66) (.tmp 67) _ rfl w.heap.size 9 is0 _ 16 Tryz.underlying28 his hzs0 hzs1 hzs2 rfl (.slice B3 t'.ns.length d3) t'.ns.length (t'.ns.map Value.string) rfl (HD2.out.alloc _).o3 (some ⟨_, 0, none⟩) 1 1 [.string _] rfl (Src.one (blk_new_at _ rfl) rfl) k1.out k2.out (by have := HD2.out.gr.size; simp; omega) ?_; intro v3 w3 ho3 hg3 hat3; obtain ⟨u8, hu8, hul8, hus8⟩ := own_snoc2 (m := 16) ho3 (fun y hy => hs.out.size y (List.mem_append.2 (.inr hy))) (by decide); obtain ⟨B8, d8, rfl, -⟩ := hu8.strs; obtain ⟨z03, z13, z23, f03, f13, f23⟩ := blk3 ((HD2.out.alloc _).mid3 hg3); have HD3 := (HD2.out.alloc _).app3 hu8 hg3 hat3; obtain ⟨r03, r13, r23, e03, e13, e23⟩ := blk3 HD3.res; have hsz3 := hg3.size; replace hul8 := Lib.hid hul8; replace hus8 := Lib.hid hus8; replace HD3 := Lib.hid HD3; clear ho3 hu8 hg3 hat3)
        have hs5 : SmallT 40 ⟨t'.us, t'.bs, u8⟩ := ⟨by have := hs.out.us; show t'.us.length ≤ 40; omega, by have := hs.out.bs; show t'.bs.length ≤ 40; omega, by show u8.length ≤ 40; rw [hul8.out]; omega, hs.out.fit, fun x hx => by
          rcases List.mem_append.1 hx with h | h
          · exact hs.out.size x (List.mem_append.2 (.inl h))
          · exact hus8.out x h⟩
        refine bodyPost_ret (v := .agg #[.slice B1 t'.us.length d1, .slice B2 t'.bs.length d2, .slice B8 u8.length d8]) (by simp [results, Tryz.results97, go_sem, r03, r13, r23]) rfl ?_
        exact HD3.out.finish hs5 (by omega)
end Go.Proofs.YtmhgpbfogdoaeaaGreatDoor

/- DrawDd -/
namespace Go.Proofs.YtmhgpbfogdoaeaaGreatDoor
open Go.RowKit

theorem lit7_at {w : World} {p k : Nat} (b : Blk w p 3 #[.int .i64 0, .int .i64 0, .int .i64 1, .int .i64 1, .int .i64 2, .int .i64 3, .int .i64 4]) (hk : k < 7) : ∃ y : Int, (0 ≤ y ∧ y ≤ 4) ∧ w.cell? ⟨p, k, none⟩ = some (.int .i64 y) := by
  obtain rfl | rfl | rfl | rfl | rfl | rfl | rfl : k = 0 ∨ k = 1 ∨ k = 2 ∨ k = 3 ∨ k = 4 ∨ k = 5 ∨ k = 6 := by omega
  · exact ⟨0, by omega, (b.cell 0).trans rfl⟩
  · exact ⟨0, by omega, (b.cell 1).trans rfl⟩
  · exact ⟨1, by omega, (b.cell 2).trans rfl⟩
  · exact ⟨1, by omega, (b.cell 3).trans rfl⟩
  · exact ⟨2, by omega, (b.cell 4).trans rfl⟩
  · exact ⟨3, by omega, (b.cell 5).trans rfl⟩
  · exact ⟨4, by omega, (b.cell 6).trans rfl⟩
/-- While a deed's kind is drawn. -/
structure DDK (w0 : World) (g p0 : Nat) (l : Array Bool) (w : World) (s3 s4 s5 s6 s7 s8 s9 s10 s11 s12 s13 s14 : Value) : Prop where
  f0 : l.getD 0 false = true → ∃ p, s4 = .slice (some ⟨p, 0, none⟩) 7 7 ∧ Blk w p 3 #[.int .i64 0, .int .i64 0, .int .i64 1, .int .i64 1, .int .i64 2, .int .i64 3, .int .i64 4] ∧ g < p
  f1 : l.getD 1 false = true → s5 = .pointer (some ⟨g, 0, none⟩)
  f2 : l.getD 2 false = true → ∃ k : Nat, k < 7 ∧ s6 = .int .i64 (k : Int)
  f3 : l.getD 3 false = true → ∃ p k : Nat, k < 7 ∧ s7 = .pointer (some ⟨p, k, none⟩) ∧ Blk w p 3 #[.int .i64 0, .int .i64 0, .int .i64 1, .int .i64 1, .int .i64 2, .int .i64 3, .int .i64 4] ∧ g < p
  f4 : l.getD 4 false = true → ∃ y : Int, (0 ≤ y ∧ y ≤ 4) ∧ s8 = .int .i64 y
  f5 : l.getD 5 false = true → s9 = .pointer (some ⟨g, 0, none⟩)
  f6 : l.getD 6 false = true → ∃ y : Int, (0 ≤ y ∧ y ≤ 59) ∧ s10 = .int .i64 y
  f7 : l.getD 7 false = true → ∃ y : Int, (0 ≤ y ∧ y ≤ 1) ∧ s11 = .int .i64 y
  f8 : l.getD 8 false = true → ∃ y : Int, (0 ≤ y ∧ y ≤ 5) ∧ s12 = .int .i64 y
  f9 : l.getD 9 false = true → ∃ y : Int, (0 ≤ y ∧ y ≤ 9) ∧ s13 = .int .i64 y
  f10 : l.getD 10 false = true → ∃ y : Int, (0 ≤ y ∧ y ≤ 9) ∧ s14 = .agg #[.int .i64 y, .int .i64 0]
  f11 : l.getD 11 false = true → ∃ q, s3 = .pointer (some ⟨q, 0, none⟩) ∧ w0.heap.size ≤ q ∧ (l.getD 12 false = false → Blk w q 41 #[.int .i64 0, .int .i64 0])
  f12 : l.getD 12 false = true → ∃ (q : Nat) (y : Int), s3 = .pointer (some ⟨q, 0, none⟩) ∧ w0.heap.size ≤ q ∧ (0 ≤ y ∧ y ≤ 9) ∧ Blk w q 41 #[.int .i64 y, .int .i64 0]
  da : l.getD 12 false = true → l.getD 11 false = true
  rd : ∃ q, Rd w g q ∧ q + l.toList.count false ≤ p0 + 13
  gr : w0.grownBy w (some g)
  g0 : g < w0.heap.size
section
variable {w0 w w' : World} {g p0 : Nat} {l : Array Bool} {s3 s4 s5 s6 s7 s8 s9 s10 s11 s12 s13 s14 v : Value}
theorem cnt_set' {l : Array Bool} {i : Nat} (h : i < l.size) (hu : l.getD i false = false) : (l.setIfInBounds i true).toList.count false + 1 = l.toList.count false := by
  have e : l.getD i false = l.toList[i] := by simp [Array.getD, h]
  rw [e] at hu
  have := count_set_true (l := l.toList) (i := i) (by simpa using h) hu
  rw [Array.toList_setIfInBounds]
  exact this
theorem DDK.up1 (h : DDK w0 g p0 l w s3 s4 s5 s6 s7 s8 s9 s10 s11 s12 s13 s14) (hsz : l.size = 13) (hun : l.getD 1 false = false) (hv : v = .pointer (some ⟨g, 0, none⟩)) : DDK w0 g p0 (l.setIfInBounds 1 true) w s3 s4 v s6 s7 s8 s9 s10 s11 s12 s13 s14 := by
  have hc := cnt_set' (l := l) (i := 1) (by omega) hun
  obtain ⟨q0, hr0, hq0⟩ := h.rd
  have hg0 := h.g0
  have hgs := h.gr.size
  exact ⟨(fun h' => h.f0 (listed_set h' (by decide))), (fun _ => hv), (fun h' => h.f2 (listed_set h' (by decide))), (fun h' => h.f3 (listed_set h' (by decide))), (fun h' => h.f4 (listed_set h' (by decide))), (fun h' => h.f5 (listed_set h' (by decide))), (fun h' => h.f6 (listed_set h' (by decide))), (fun h' => h.f7 (listed_set h' (by decide))), (fun h' => h.f8 (listed_set h' (by decide))), (fun h' => h.f9 (listed_set h' (by decide))), (fun h' => h.f10 (listed_set h' (by decide))), (fun h' => (let ⟨q, e, hq, hh⟩ := h.f11 (listed_set h' (by decide)); ⟨q, e, hq, fun hn => hh (by rwa [listed_same (by decide)] at hn)⟩)), (fun h' => h.f12 (listed_set h' (by decide))), (fun h' => by rw [listed_same (by decide)] at h' ⊢; exact h.da h'), ⟨q0, hr0, by omega⟩, h.gr, h.g0⟩
theorem DDK.up3 (h : DDK w0 g p0 l w s3 s4 s5 s6 s7 s8 s9 s10 s11 s12 s13 s14) (hsz : l.size = 13) (hun : l.getD 3 false = false) (hv : ∃ p k : Nat, k < 7 ∧ v = .pointer (some ⟨p, k, none⟩) ∧ Blk w p 3 #[.int .i64 0, .int .i64 0, .int .i64 1, .int .i64 1, .int .i64 2, .int .i64 3, .int .i64 4] ∧ g < p) : DDK w0 g p0 (l.setIfInBounds 3 true) w s3 s4 s5 s6 v s8 s9 s10 s11 s12 s13 s14 := by
  have hc := cnt_set' (l := l) (i := 3) (by omega) hun
  obtain ⟨q0, hr0, hq0⟩ := h.rd
  have hg0 := h.g0
  have hgs := h.gr.size
  exact ⟨(fun h' => h.f0 (listed_set h' (by decide))), (fun h' => h.f1 (listed_set h' (by decide))), (fun h' => h.f2 (listed_set h' (by decide))), (fun _ => hv), (fun h' => h.f4 (listed_set h' (by decide))), (fun h' => h.f5 (listed_set h' (by decide))), (fun h' => h.f6 (listed_set h' (by decide))), (fun h' => h.f7 (listed_set h' (by decide))), (fun h' => h.f8 (listed_set h' (by decide))), (fun h' => h.f9 (listed_set h' (by decide))), (fun h' => h.f10 (listed_set h' (by decide))), (fun h' => (let ⟨q, e, hq, hh⟩ := h.f11 (listed_set h' (by decide)); ⟨q, e, hq, fun hn => hh (by rwa [listed_same (by decide)] at hn)⟩)), (fun h' => h.f12 (listed_set h' (by decide))), (fun h' => by rw [listed_same (by decide)] at h' ⊢; exact h.da h'), ⟨q0, hr0, by omega⟩, h.gr, h.g0⟩
theorem DDK.up4 (h : DDK w0 g p0 l w s3 s4 s5 s6 s7 s8 s9 s10 s11 s12 s13 s14) (hsz : l.size = 13) (hun : l.getD 4 false = false) (hv : ∃ y : Int, (0 ≤ y ∧ y ≤ 4) ∧ v = .int .i64 y) : DDK w0 g p0 (l.setIfInBounds 4 true) w s3 s4 s5 s6 s7 v s9 s10 s11 s12 s13 s14 := by
  have hc := cnt_set' (l := l) (i := 4) (by omega) hun
  obtain ⟨q0, hr0, hq0⟩ := h.rd
  have hg0 := h.g0
  have hgs := h.gr.size
  exact ⟨(fun h' => h.f0 (listed_set h' (by decide))), (fun h' => h.f1 (listed_set h' (by decide))), (fun h' => h.f2 (listed_set h' (by decide))), (fun h' => h.f3 (listed_set h' (by decide))), (fun _ => hv), (fun h' => h.f5 (listed_set h' (by decide))), (fun h' => h.f6 (listed_set h' (by decide))), (fun h' => h.f7 (listed_set h' (by decide))), (fun h' => h.f8 (listed_set h' (by decide))), (fun h' => h.f9 (listed_set h' (by decide))), (fun h' => h.f10 (listed_set h' (by decide))), (fun h' => (let ⟨q, e, hq, hh⟩ := h.f11 (listed_set h' (by decide)); ⟨q, e, hq, fun hn => hh (by rwa [listed_same (by decide)] at hn)⟩)), (fun h' => h.f12 (listed_set h' (by decide))), (fun h' => by rw [listed_same (by decide)] at h' ⊢; exact h.da h'), ⟨q0, hr0, by omega⟩, h.gr, h.g0⟩
theorem DDK.up5 (h : DDK w0 g p0 l w s3 s4 s5 s6 s7 s8 s9 s10 s11 s12 s13 s14) (hsz : l.size = 13) (hun : l.getD 5 false = false) (hv : v = .pointer (some ⟨g, 0, none⟩)) : DDK w0 g p0 (l.setIfInBounds 5 true) w s3 s4 s5 s6 s7 s8 v s10 s11 s12 s13 s14 := by
  have hc := cnt_set' (l := l) (i := 5) (by omega) hun
  obtain ⟨q0, hr0, hq0⟩ := h.rd
  have hg0 := h.g0
  have hgs := h.gr.size
  exact ⟨(fun h' => h.f0 (listed_set h' (by decide))), (fun h' => h.f1 (listed_set h' (by decide))), (fun h' => h.f2 (listed_set h' (by decide))), (fun h' => h.f3 (listed_set h' (by decide))), (fun h' => h.f4 (listed_set h' (by decide))), (fun _ => hv), (fun h' => h.f6 (listed_set h' (by decide))), (fun h' => h.f7 (listed_set h' (by decide))), (fun h' => h.f8 (listed_set h' (by decide))), (fun h' => h.f9 (listed_set h' (by decide))), (fun h' => h.f10 (listed_set h' (by decide))), (fun h' => (let ⟨q, e, hq, hh⟩ := h.f11 (listed_set h' (by decide)); ⟨q, e, hq, fun hn => hh (by rwa [listed_same (by decide)] at hn)⟩)), (fun h' => h.f12 (listed_set h' (by decide))), (fun h' => by rw [listed_same (by decide)] at h' ⊢; exact h.da h'), ⟨q0, hr0, by omega⟩, h.gr, h.g0⟩
theorem DDK.up7 (h : DDK w0 g p0 l w s3 s4 s5 s6 s7 s8 s9 s10 s11 s12 s13 s14) (hsz : l.size = 13) (hun : l.getD 7 false = false) (hv : ∃ y : Int, (0 ≤ y ∧ y ≤ 1) ∧ v = .int .i64 y) : DDK w0 g p0 (l.setIfInBounds 7 true) w s3 s4 s5 s6 s7 s8 s9 s10 v s12 s13 s14 := by
  have hc := cnt_set' (l := l) (i := 7) (by omega) hun
  obtain ⟨q0, hr0, hq0⟩ := h.rd
  have hg0 := h.g0
  have hgs := h.gr.size
  exact ⟨(fun h' => h.f0 (listed_set h' (by decide))), (fun h' => h.f1 (listed_set h' (by decide))), (fun h' => h.f2 (listed_set h' (by decide))), (fun h' => h.f3 (listed_set h' (by decide))), (fun h' => h.f4 (listed_set h' (by decide))), (fun h' => h.f5 (listed_set h' (by decide))), (fun h' => h.f6 (listed_set h' (by decide))), (fun _ => hv), (fun h' => h.f8 (listed_set h' (by decide))), (fun h' => h.f9 (listed_set h' (by decide))), (fun h' => h.f10 (listed_set h' (by decide))), (fun h' => (let ⟨q, e, hq, hh⟩ := h.f11 (listed_set h' (by decide)); ⟨q, e, hq, fun hn => hh (by rwa [listed_same (by decide)] at hn)⟩)), (fun h' => h.f12 (listed_set h' (by decide))), (fun h' => by rw [listed_same (by decide)] at h' ⊢; exact h.da h'), ⟨q0, hr0, by omega⟩, h.gr, h.g0⟩
theorem DDK.up8 (h : DDK w0 g p0 l w s3 s4 s5 s6 s7 s8 s9 s10 s11 s12 s13 s14) (hsz : l.size = 13) (hun : l.getD 8 false = false) (hv : ∃ y : Int, (0 ≤ y ∧ y ≤ 5) ∧ v = .int .i64 y) : DDK w0 g p0 (l.setIfInBounds 8 true) w s3 s4 s5 s6 s7 s8 s9 s10 s11 v s13 s14 := by
  have hc := cnt_set' (l := l) (i := 8) (by omega) hun
  obtain ⟨q0, hr0, hq0⟩ := h.rd
  have hg0 := h.g0
  have hgs := h.gr.size
  exact ⟨(fun h' => h.f0 (listed_set h' (by decide))), (fun h' => h.f1 (listed_set h' (by decide))), (fun h' => h.f2 (listed_set h' (by decide))), (fun h' => h.f3 (listed_set h' (by decide))), (fun h' => h.f4 (listed_set h' (by decide))), (fun h' => h.f5 (listed_set h' (by decide))), (fun h' => h.f6 (listed_set h' (by decide))), (fun h' => h.f7 (listed_set h' (by decide))), (fun _ => hv), (fun h' => h.f9 (listed_set h' (by decide))), (fun h' => h.f10 (listed_set h' (by decide))), (fun h' => (let ⟨q, e, hq, hh⟩ := h.f11 (listed_set h' (by decide)); ⟨q, e, hq, fun hn => hh (by rwa [listed_same (by decide)] at hn)⟩)), (fun h' => h.f12 (listed_set h' (by decide))), (fun h' => by rw [listed_same (by decide)] at h' ⊢; exact h.da h'), ⟨q0, hr0, by omega⟩, h.gr, h.g0⟩
theorem DDK.up9 (h : DDK w0 g p0 l w s3 s4 s5 s6 s7 s8 s9 s10 s11 s12 s13 s14) (hsz : l.size = 13) (hun : l.getD 9 false = false) (hv : ∃ y : Int, (0 ≤ y ∧ y ≤ 9) ∧ v = .int .i64 y) : DDK w0 g p0 (l.setIfInBounds 9 true) w s3 s4 s5 s6 s7 s8 s9 s10 s11 s12 v s14 := by
  have hc := cnt_set' (l := l) (i := 9) (by omega) hun
  obtain ⟨q0, hr0, hq0⟩ := h.rd
  have hg0 := h.g0
  have hgs := h.gr.size
  exact ⟨(fun h' => h.f0 (listed_set h' (by decide))), (fun h' => h.f1 (listed_set h' (by decide))), (fun h' => h.f2 (listed_set h' (by decide))), (fun h' => h.f3 (listed_set h' (by decide))), (fun h' => h.f4 (listed_set h' (by decide))), (fun h' => h.f5 (listed_set h' (by decide))), (fun h' => h.f6 (listed_set h' (by decide))), (fun h' => h.f7 (listed_set h' (by decide))), (fun h' => h.f8 (listed_set h' (by decide))), (fun _ => hv), (fun h' => h.f10 (listed_set h' (by decide))), (fun h' => (let ⟨q, e, hq, hh⟩ := h.f11 (listed_set h' (by decide)); ⟨q, e, hq, fun hn => hh (by rwa [listed_same (by decide)] at hn)⟩)), (fun h' => h.f12 (listed_set h' (by decide))), (fun h' => by rw [listed_same (by decide)] at h' ⊢; exact h.da h'), ⟨q0, hr0, by omega⟩, h.gr, h.g0⟩
theorem DDK.up10 (h : DDK w0 g p0 l w s3 s4 s5 s6 s7 s8 s9 s10 s11 s12 s13 s14) (hsz : l.size = 13) (hun : l.getD 10 false = false) (hv : ∃ y : Int, (0 ≤ y ∧ y ≤ 9) ∧ v = .agg #[.int .i64 y, .int .i64 0]) : DDK w0 g p0 (l.setIfInBounds 10 true) w s3 s4 s5 s6 s7 s8 s9 s10 s11 s12 s13 v := by
  have hc := cnt_set' (l := l) (i := 10) (by omega) hun
  obtain ⟨q0, hr0, hq0⟩ := h.rd
  have hg0 := h.g0
  have hgs := h.gr.size
  exact ⟨(fun h' => h.f0 (listed_set h' (by decide))), (fun h' => h.f1 (listed_set h' (by decide))), (fun h' => h.f2 (listed_set h' (by decide))), (fun h' => h.f3 (listed_set h' (by decide))), (fun h' => h.f4 (listed_set h' (by decide))), (fun h' => h.f5 (listed_set h' (by decide))), (fun h' => h.f6 (listed_set h' (by decide))), (fun h' => h.f7 (listed_set h' (by decide))), (fun h' => h.f8 (listed_set h' (by decide))), (fun h' => h.f9 (listed_set h' (by decide))), (fun _ => hv), (fun h' => (let ⟨q, e, hq, hh⟩ := h.f11 (listed_set h' (by decide)); ⟨q, e, hq, fun hn => hh (by rwa [listed_same (by decide)] at hn)⟩)), (fun h' => h.f12 (listed_set h' (by decide))), (fun h' => by rw [listed_same (by decide)] at h' ⊢; exact h.da h'), ⟨q0, hr0, by omega⟩, h.gr, h.g0⟩
theorem DDK.up2 (h : DDK w0 g p0 l w s3 s4 s5 s6 s7 s8 s9 s10 s11 s12 s13 s14) (hsz : l.size = 13) (hun : l.getD 2 false = false) (hv : ∃ k : Nat, k < 7 ∧ v = .int .i64 (k : Int)) {q1 : Nat} (hg : w.grownBy w' (some g)) (hq1 : q1 + l.toList.count false ≤ p0 + 13) (hr : Rd w' g (q1 + 1)) : DDK w0 g p0 (l.setIfInBounds 2 true) w' s3 s4 s5 v s7 s8 s9 s10 s11 s12 s13 s14 := by
  have hc := cnt_set' (l := l) (i := 2) (by omega) hun
  obtain ⟨q0, hr0, hq0⟩ := h.rd
  have hg0 := h.g0
  have hgs := h.gr.size
  exact ⟨(fun h' => (let ⟨p, e, b, hp⟩ := h.f0 (listed_set h' (by decide)); ⟨p, e, (b).grown hg (by simp; omega), hp⟩)), (fun h' => h.f1 (listed_set h' (by decide))), (fun _ => hv), (fun h' => (let ⟨p, k, hk, e, b, hp⟩ := h.f3 (listed_set h' (by decide)); ⟨p, k, hk, e, (b).grown hg (by simp; omega), hp⟩)), (fun h' => h.f4 (listed_set h' (by decide))), (fun h' => h.f5 (listed_set h' (by decide))), (fun h' => h.f6 (listed_set h' (by decide))), (fun h' => h.f7 (listed_set h' (by decide))), (fun h' => h.f8 (listed_set h' (by decide))), (fun h' => h.f9 (listed_set h' (by decide))), (fun h' => h.f10 (listed_set h' (by decide))), (fun h' => (let ⟨q, e, hq, hh⟩ := h.f11 (listed_set h' (by decide)); ⟨q, e, hq, fun hn => let b := hh (by rwa [listed_same (by decide)] at hn); (b).grown hg (by simp; omega)⟩)), (fun h' => (let ⟨q, y, e, hq, hy, b⟩ := h.f12 (listed_set h' (by decide)); ⟨q, y, e, hq, hy, (b).grown hg (by simp; omega)⟩)), (fun h' => by rw [listed_same (by decide)] at h' ⊢; exact h.da h'), ⟨q1 + 1, hr, by omega⟩, h.gr.trans hg, h.g0⟩
theorem DDK.up6 (h : DDK w0 g p0 l w s3 s4 s5 s6 s7 s8 s9 s10 s11 s12 s13 s14) (hsz : l.size = 13) (hun : l.getD 6 false = false) (hv : ∃ y : Int, (0 ≤ y ∧ y ≤ 59) ∧ v = .int .i64 y) {q1 : Nat} (hg : w.grownBy w' (some g)) (hq1 : q1 + l.toList.count false ≤ p0 + 13) (hr : Rd w' g (q1 + 1)) : DDK w0 g p0 (l.setIfInBounds 6 true) w' s3 s4 s5 s6 s7 s8 s9 v s11 s12 s13 s14 := by
  have hc := cnt_set' (l := l) (i := 6) (by omega) hun
  obtain ⟨q0, hr0, hq0⟩ := h.rd
  have hg0 := h.g0
  have hgs := h.gr.size
  exact ⟨(fun h' => (let ⟨p, e, b, hp⟩ := h.f0 (listed_set h' (by decide)); ⟨p, e, (b).grown hg (by simp; omega), hp⟩)), (fun h' => h.f1 (listed_set h' (by decide))), (fun h' => h.f2 (listed_set h' (by decide))), (fun h' => (let ⟨p, k, hk, e, b, hp⟩ := h.f3 (listed_set h' (by decide)); ⟨p, k, hk, e, (b).grown hg (by simp; omega), hp⟩)), (fun h' => h.f4 (listed_set h' (by decide))), (fun h' => h.f5 (listed_set h' (by decide))), (fun _ => hv), (fun h' => h.f7 (listed_set h' (by decide))), (fun h' => h.f8 (listed_set h' (by decide))), (fun h' => h.f9 (listed_set h' (by decide))), (fun h' => h.f10 (listed_set h' (by decide))), (fun h' => (let ⟨q, e, hq, hh⟩ := h.f11 (listed_set h' (by decide)); ⟨q, e, hq, fun hn => let b := hh (by rwa [listed_same (by decide)] at hn); (b).grown hg (by simp; omega)⟩)), (fun h' => (let ⟨q, y, e, hq, hy, b⟩ := h.f12 (listed_set h' (by decide)); ⟨q, y, e, hq, hy, (b).grown hg (by simp; omega)⟩)), (fun h' => by rw [listed_same (by decide)] at h' ⊢; exact h.da h'), ⟨q1 + 1, hr, by omega⟩, h.gr.trans hg, h.g0⟩
theorem DDK.up0 (h : DDK w0 g p0 l w s3 s4 s5 s6 s7 s8 s9 s10 s11 s12 s13 s14) (hsz : l.size = 13) (hun : l.getD 0 false = false)  : DDK w0 g p0 (l.setIfInBounds 0 true) (w.alloc (.cells #[.int .i64 0, .int .i64 0, .int .i64 1, .int .i64 1, .int .i64 2, .int .i64 3, .int .i64 4] 3)) s3 (.slice (some ⟨w.heap.size, 0, none⟩) 7 7) s5 s6 s7 s8 s9 s10 s11 s12 s13 s14 := by
  have hb := (Below.refl w.heap.size w).alloc (Nat.le_refl _) (.cells #[.int .i64 0, .int .i64 0, .int .i64 1, .int .i64 1, .int .i64 2, .int .i64 3, .int .i64 4] 3)
  have hgl : g < w.heap.size := by obtain ⟨q1, hr1, -⟩ := h.rd; exact hr1.lt
  have hc := cnt_set' (l := l) (i := 0) (by omega) hun
  obtain ⟨q0, hr0, hq0⟩ := h.rd
  have hg0 := h.g0
  have hgs := h.gr.size
  exact ⟨(fun _ => ⟨w.heap.size, rfl, Blk.new _ _ _, hgl⟩), (fun h' => h.f1 (listed_set h' (by decide))), (fun h' => h.f2 (listed_set h' (by decide))), (fun h' => (let ⟨p, k, hk, e, b, hp⟩ := h.f3 (listed_set h' (by decide)); ⟨p, k, hk, e, (b).below hb (b).lt, hp⟩)), (fun h' => h.f4 (listed_set h' (by decide))), (fun h' => h.f5 (listed_set h' (by decide))), (fun h' => h.f6 (listed_set h' (by decide))), (fun h' => h.f7 (listed_set h' (by decide))), (fun h' => h.f8 (listed_set h' (by decide))), (fun h' => h.f9 (listed_set h' (by decide))), (fun h' => h.f10 (listed_set h' (by decide))), (fun h' => (let ⟨q, e, hq, hh⟩ := h.f11 (listed_set h' (by decide)); ⟨q, e, hq, fun hn => let b := hh (by rwa [listed_same (by decide)] at hn); (b).below hb (b).lt⟩)), (fun h' => (let ⟨q, y, e, hq, hy, b⟩ := h.f12 (listed_set h' (by decide)); ⟨q, y, e, hq, hy, (b).below hb (b).lt⟩)), (fun h' => by rw [listed_same (by decide)] at h' ⊢; exact h.da h'), ⟨q0, hr0.alloc' _, by omega⟩, h.gr.trans (grown_of_below (some g) hb), h.g0⟩
theorem DDK.up11 (h : DDK w0 g p0 l w s3 s4 s5 s6 s7 s8 s9 s10 s11 s12 s13 s14) (hsz : l.size = 13) (hun : l.getD 11 false = false)  : DDK w0 g p0 (l.setIfInBounds 11 true) (w.alloc (.cells #[.int .i64 0, .int .i64 0] 41)) (.pointer (some ⟨w.heap.size, 0, none⟩)) s4 s5 s6 s7 s8 s9 s10 s11 s12 s13 s14 := by
  have hb := (Below.refl w.heap.size w).alloc (Nat.le_refl _) (.cells #[.int .i64 0, .int .i64 0] 41)
  have hgl : g < w.heap.size := by obtain ⟨q1, hr1, -⟩ := h.rd; exact hr1.lt
  have hc := cnt_set' (l := l) (i := 11) (by omega) hun
  obtain ⟨q0, hr0, hq0⟩ := h.rd
  have hg0 := h.g0
  have hgs := h.gr.size
  exact ⟨(fun h' => (let ⟨p, e, b, hp⟩ := h.f0 (listed_set h' (by decide)); ⟨p, e, (b).below hb (b).lt, hp⟩)), (fun h' => h.f1 (listed_set h' (by decide))), (fun h' => h.f2 (listed_set h' (by decide))), (fun h' => (let ⟨p, k, hk, e, b, hp⟩ := h.f3 (listed_set h' (by decide)); ⟨p, k, hk, e, (b).below hb (b).lt, hp⟩)), (fun h' => h.f4 (listed_set h' (by decide))), (fun h' => h.f5 (listed_set h' (by decide))), (fun h' => h.f6 (listed_set h' (by decide))), (fun h' => h.f7 (listed_set h' (by decide))), (fun h' => h.f8 (listed_set h' (by decide))), (fun h' => h.f9 (listed_set h' (by decide))), (fun h' => h.f10 (listed_set h' (by decide))), (fun _ => ⟨w.heap.size, rfl, h.gr.size, fun _ => Blk.new _ _ _⟩), (fun h' => absurd (h.da (listed_set h' (by decide))) (by rw [hun]; simp)), (fun _ => listed_at (by omega)), ⟨q0, hr0.alloc' _, by omega⟩, h.gr.trans (grown_of_below (some g) hb), h.g0⟩
theorem DDK.up12 (h : DDK w0 g p0 l w s3 s4 s5 s6 s7 s8 s9 s10 s11 s12 s13 s14) (hsz : l.size = 13) (hun : l.getD 12 false = false) {q : Nat} {y : Int} (hA : l.getD 11 false = true) (e3 : s3 = .pointer (some ⟨q, 0, none⟩)) (hwq : w0.heap.size ≤ q) (hy : 0 ≤ y ∧ y ≤ 9) (hz : Blk w q 41 #[.int .i64 0, .int .i64 0]) : DDK w0 g p0 (l.setIfInBounds 12 true) ((w.setCell ⟨q, 0, none⟩ (.int .i64 y)).setCell ⟨q, 1, none⟩ (.int .i64 0)) s3 s4 s5 s6 s7 s8 s9 s10 s11 s12 s13 s14 := by
  have HB : Blk ((w.setCell ⟨q, 0, none⟩ (.int .i64 y)).setCell ⟨q, 1, none⟩ (.int .i64 0)) q 41 #[.int .i64 y, .int .i64 0] := by
    have := (hz.set_ 0 (.int .i64 y)).set_ 1 (.int .i64 0)
    simpa using this
  have HL : ∀ {p : Nat}, Blk w p 3 #[.int .i64 0, .int .i64 0, .int .i64 1, .int .i64 1, .int .i64 2, .int .i64 3, .int .i64 4] → Blk ((w.setCell ⟨q, 0, none⟩ (.int .i64 y)).setCell ⟨q, 1, none⟩ (.int .i64 0)) p 3 #[.int .i64 0, .int .i64 0, .int .i64 1, .int .i64 1, .int .i64 2, .int .i64 3, .int .i64 4] := fun {p} b => by
    have m : p ≠ q := fun e => by
      subst e
      have e1 := b
      have e2 := hz
      unfold Blk at e1 e2
      rw [e1] at e2
      injection e2 with e2
      injection e2 with _ e3
      exact absurd e3 (by decide)
    exact (b.far (p := ⟨q, 0, none⟩) m _).far (p := ⟨q, 1, none⟩) m _
  have hc := cnt_set' (l := l) (i := 12) (by omega) hun
  obtain ⟨q0, hr0, hq0⟩ := h.rd
  have hg0 := h.g0
  have hgs := h.gr.size
  exact ⟨(fun h' => let ⟨p, e, b, hp⟩ := h.f0 (listed_set h' (by decide)); ⟨p, e, HL b, hp⟩), (fun h' => h.f1 (listed_set h' (by decide))), (fun h' => h.f2 (listed_set h' (by decide))), (fun h' => let ⟨p, k, hk, e, b, hp⟩ := h.f3 (listed_set h' (by decide)); ⟨p, k, hk, e, HL b, hp⟩), (fun h' => h.f4 (listed_set h' (by decide))), (fun h' => h.f5 (listed_set h' (by decide))), (fun h' => h.f6 (listed_set h' (by decide))), (fun h' => h.f7 (listed_set h' (by decide))), (fun h' => h.f8 (listed_set h' (by decide))), (fun h' => h.f9 (listed_set h' (by decide))), (fun h' => h.f10 (listed_set h' (by decide))), (fun h' => let ⟨q, e, hq, hh⟩ := h.f11 (listed_set h' (by decide)); ⟨q, e, hq, fun hn => by rw [listed_at (by omega)] at hn; cases hn⟩), (fun _ => ⟨q, y, e3, hwq, hy, HB⟩), (fun _ => by rw [listed_same (by decide)]; exact hA), ⟨q0, rd_set (rd_set hr0 (by omega) _) (by omega) _, by omega⟩, grown_set (grown_set h.gr hwq _) hwq _, h.g0⟩
end

/-- A deed is drawn by a reader. -/
def RetDeed (w : World) (g p : Nat) (e : Ending) (w' : World) : Prop := ∃ k n q, e = .returned (.agg #[.int .i64 k, .int .i64 n]) ∧ (0 ≤ k ∧ k ≤ 9) ∧ (-1 ≤ n ∧ n ≤ 1000000) ∧ Rd w' g q ∧ q ≤ p + 20 ∧ w.grownBy w' (some g)
/-- While the deed is drawn: the reader, the result's block, the deed's own. -/
structure DDS (w : World) (g q : Nat) (k n : Int) (r : Nat) (W : World) : Prop where
  rd : Rd W g r
  res : Blk W w.heap.size 41 #[.int .i64 0, .int .i64 0]
  own : Blk W q 41 #[.int .i64 k, .int .i64 n]
  gr : w.grownBy W (some g)
  g0 : g < w.heap.size
  q0 : w.heap.size < q
section
variable {w W W' : World} {g q r r' : Nat} {k n : Int}
theorem DDS.pick (h : DDS w g q k n r W) (hr : Rd W' g r') (hg : W.grownBy W' (some g)) : DDS w g q k n r' W' :=
  ⟨hr, h.res.grown hg (by simp; have := h.g0; omega), h.own.grown hg (by simp; have := h.g0; have := h.q0; omega), h.gr.trans hg, h.g0, h.q0⟩
theorem DDS.lit (h : DDS w g q k n r W) (o : Obj) : DDS w g q k n r (W.alloc o) :=
  ⟨h.rd.alloc' _, h.res.alloc _, h.own.alloc _, h.gr.trans (grown_of_below (some g) ((Below.refl _ _).alloc (Nat.le_refl _) _)), h.g0, h.q0⟩
theorem DDS.setN (h : DDS w g q k n r W) (m : Int) : DDS w g q k m r (W.setCell ⟨q, 1, none⟩ (.int .i64 m)) :=
  ⟨rd_set h.rd (by have := h.g0; have := h.q0; omega) _, h.res.far (by simp; have := h.q0; omega) _, by have := h.own.set_ 1 (.int .i64 m); simpa using this, grown_set h.gr (by have := h.q0; omega) _, h.g0, h.q0⟩
end
theorem pick3i (a0 a1 a2 m : Int) (kk : Nat) (hk : kk < 3) (h0 : -1 ≤ a0 ∧ a0 ≤ m) (h1 : -1 ≤ a1 ∧ a1 ≤ m) (h2 : -1 ≤ a2 ∧ a2 ≤ m) : ∃ y : Int, (#[Value.int .i64 a0, .int .i64 a1, .int .i64 a2] : Array Value)[kk]? = some (.int .i64 y) ∧ -1 ≤ y ∧ y ≤ m := by
  obtain rfl | rfl | rfl : kk = 0 ∨ kk = 1 ∨ kk = 2 := by omega
  · exact ⟨a0, rfl, h0⟩
  · exact ⟨a1, rfl, h1⟩
  · exact ⟨a2, rfl, h2⟩

set_option maxRecDepth 100000 in
set_option maxHeartbeats 8000000 in
theorem deed_any (g p : Nat) (w : World) (h : Rd w g p) (hp : p ≤ 50000) :
    Calls Tryz.prog 99 #[.pointer (some ⟨g, 0, none⟩)] w (RetDeed w g p) := by
  have hg0 := h.lt
  have hR := h.alloc' (.cells #[.int .i64 0, .int .i64 0] 41)
  have HX := Blk.new w 41 #[.int .i64 0, .int .i64 0]
  have hgr := grown_of_below (some g) ((Below.refl w.heap.size w).alloc (Nat.le_refl _) (.cells #[.int .i64 0, .int .i64 0] 41))
  have hsW : (w.alloc (.cells #[.int .i64 0, .int .i64 0] 41)).heap.size = w.heap.size + 1 := by simp
  replace hR := Lib.hid hR
  replace HX := Lib.hid HX
  replace hgr := Lib.hid hgr
  clear h
  go_enter Tryz.func99, Tryz.ntmps99
  go_upto_region 1 with (fail)
  generalize w.alloc (.cells #[.int .i64 0, .int .i64 0] 41) = W at *
  have hgW : g < W.heap.size := by omega
  refine wp_region_any (by kernel_rfl) ?_
  refine wpAny_inv (Inv := fun l a w' => ∃ (s3 s4 s5 s6 s7 s8 s9 s10 s11 s12 s13 s14 : Value), a = ⟨#[.pointer (some ⟨g, 0, none⟩), undef, .pointer (some ⟨w.heap.size, 0, none⟩), s3, s4, s5, s6, s7, s8, s9, s10, s11, s12, s13, s14, undef, undef, undef, undef, undef, undef, undef, undef, undef, undef, undef, undef, undef, undef, undef, undef, undef, undef, undef, undef, undef, undef, undef, undef, undef, undef, undef, undef, undef, undef, undef, undef, undef, undef, undef], []⟩ ∧ DDK W g p l w' s3 s4 s5 s6 s7 s8 s9 s10 s11 s12 s13 s14) (ord_spec (by kernel_rfl)) ?_ ?_ _ _ _ _ rfl (by decide) ?_
  · rintro l a w' ⟨s3, s4, s5, s6, s7, s8, s9, s10, s11, s12, s13, s14, rfl, hF⟩ hsz hl
    have hl' : ∀ j, j < 13 → l.getD j false = true := hl
    obtain ⟨q, y, e3, hwq, hy, hown⟩ := hF.f12 (hl' 12 (by decide))
    subst e3
    obtain ⟨r, hr, hrq⟩ := hF.rd
    have hcn : l.toList.count false = 0 := by
      rw [List.count_eq_zero]
      intro hm
      obtain ⟨j, hj, he⟩ := List.mem_iff_getElem.1 hm
      have hj2 : j < 13 := by simpa [hsz] using hj
      have := hl' j hj2
      simp [Array.getD, hsz, hj2] at this
      simp at he
      rw [he] at this; cases this
    have S := Lib.hid (⟨hr, HX.out.grown hF.gr (by simp; omega), hown, hgr.out.trans hF.gr, hg0, by omega⟩ : DDS w g q y 0 r w')
    clear hF hl hl' hr hown
    have r0 := S.out.own.cell 0
    by_cases hk : y = 0 ∨ y = 1 ∨ y = 2
    · rcases hk with rfl | rfl | rfl
      · go_wp2_with (fail)
        refine (pick_any g _ 12 _ S.out.rd (by omega) (by omega) (by omega)).mono ?_
        rintro e V1 ⟨k1, rfl, hk1, hr1, hg1, -⟩
        replace S := Lib.hid (S.out.pick hr1 hg1)
        clear hr1 hg1
        go_wp2_with (fail)
        refine (pick_any g _ 250 _ S.out.rd (by omega) (by omega) (by omega)).mono ?_
        rintro e V2 ⟨k2, rfl, hk2, hr2, hg2, -⟩
        replace S := Lib.hid (S.out.pick hr2 hg2)
        clear hr2 hg2
        go_wp2_with (fail)
        refine (pick_any g _ 250 _ S.out.rd (by omega) (by omega) (by omega)).mono ?_
        rintro e V3 ⟨k3, rfl, hk3, hr3, hg3, -⟩
        replace S := Lib.hid (S.out.pick hr3 hg3)
        clear hr3 hg3
        have t1 : IntKind.i64.wrap (k3 * 40) = k3 * 40 := IntWalk.i64_in _ (by omega)
        have SL := Lib.hid (S.out.lit (.cells #[.int .i64 k1, .int .i64 k2, .int .i64 (k3 * 40)] 3))
        have kL := Lib.hid (Blk.new V3 3 #[.int .i64 k1, .int .i64 k2, .int .i64 (k3 * 40)])
        have hgl : g < V3.heap.size := S.out.rd.lt
        go_wp2_with (fail)
        refine (pick_any g _ 3 _ SL.out.rd (by omega) (by omega) (by omega)).mono ?_
        rintro e V4 ⟨k4, rfl, hk4, hr4, hg4, -⟩
        obtain ⟨kk4, rfl⟩ : ∃ kk : Nat, k4 = (kk : Int) := ⟨k4.toNat, by omega⟩
        replace S := Lib.hid (SL.out.pick hr4 hg4)
        have kL2 := kL.out.grown hg4 (by simp; omega)
        obtain ⟨y4, hy4, hb4⟩ := pick3i (k1) (k2) ((k3 * 40)) 10000 kk4 (by omega) (by omega) (by omega) (by omega)
        have ck : V4.cell? ⟨V3.heap.size, kk4, none⟩ = some (.int .i64 y4) := (kL2.cell kk4).trans hy4
        have i0 : (0 : Int) ≤ (kk4 : Int) := by omega
        have i1 : (kk4 : Int) < 3 := by omega
        have r0 := S.out.own.cell 0
        have r1 := S.out.own.cell 1
        have f0 := S.out.own.frozen 0
        have f1 := S.out.own.frozen 1
        have S2 := Lib.hid (S.out.setN y4)
        clear hr4 hg4 kL kL2 SL hy4 S
        go_upto_region 4 with (fail)
        generalize V4.setCell ⟨q, 1, none⟩ (.int .i64 y4) = V5 at *
        clear r0 r1 f0 f1 ck
        have S := S2
        clear S2
        go_wp2_with (fail)
        refine (odd_any g _ 40 _ S.out.rd (by omega) (by omega) (by omega)).mono ?_
        rintro e V7 ⟨tb, q7, rfl, hq7, hr7, hg7, -⟩
        replace S := Lib.hid (S.out.pick hr7 hg7)
        clear hr7 hg7
        cases tb
        · obtain ⟨r0, r1⟩ : _ ∧ _ := ⟨S.out.own.cell 0, S.out.own.cell 1⟩
          obtain ⟨z0, z1⟩ : _ ∧ _ := ⟨S.out.res.cell 0, S.out.res.cell 1⟩
          have f0 := S.out.res.frozen 0
          have f1 := S.out.res.frozen 1
          have HR := fun (u0 u1 : Value) => rd_set (u := u1) (b := w.heap.size) (i := 1) (rd_set (u := u0) (b := w.heap.size) (i := 0) S.out.rd hg0) hg0
          have HG := fun (u0 u1 : Value) => grown_set (b := w.heap.size) (i := 1) (grown_set (b := w.heap.size) (i := 0) S.out.gr (Nat.le_refl _) u0) (Nat.le_refl _) u1
          replace HR := Lib.hid HR
          replace HG := Lib.hid HG
          clear S
          go_wp2
          refine bodyPost_ret (v := .agg #[.int .i64 0, .int .i64 y4]) (by simp [results, Tryz.results99, go_sem, z0, z1]) rfl ?_
          exact ⟨_, _, _, rfl, by omega, by omega, HR.out _ _, by omega, HG.out _ _⟩
        · have SL := Lib.hid (S.out.lit (.cells #[.int .i64 (-1), .int .i64 1000000, .int .i64 7] 3))
          have kL := Lib.hid (Blk.new V7 3 #[.int .i64 (-1), .int .i64 1000000, .int .i64 7])
          have hgl : g < V7.heap.size := S.out.rd.lt
          go_wp2_with (fail)
          refine (pick_any g _ 3 _ SL.out.rd (by omega) (by omega) (by omega)).mono ?_
          rintro e V8 ⟨k8, rfl, hk8, hr8, hg8, -⟩
          obtain ⟨kk8, rfl⟩ : ∃ kk : Nat, k8 = (kk : Int) := ⟨k8.toNat, by omega⟩
          replace S := Lib.hid (SL.out.pick hr8 hg8)
          have kL2 := kL.out.grown hg8 (by simp; omega)
          obtain ⟨y8, hy8, hb8⟩ := pick3i ((-1)) (1000000) (7) 1000000 kk8 (by omega) (by omega) (by omega) (by omega)
          have ck : V8.cell? ⟨V7.heap.size, kk8, none⟩ = some (.int .i64 y8) := (kL2.cell kk8).trans hy8
          have i0 : (0 : Int) ≤ (kk8 : Int) := by omega
          have i1 : (kk8 : Int) < 3 := by omega
          have r0 := S.out.own.cell 0
          have r1 := S.out.own.cell 1
          have f0 := S.out.own.frozen 0
          have f1 := S.out.own.frozen 1
          have S2 := Lib.hid (S.out.setN y8)
          clear hr8 hg8 kL kL2 SL hy8 S
          go_upto_region 6 with (fail)
          generalize V8.setCell ⟨q, 1, none⟩ (.int .i64 y8) = V9 at *
          clear r0 r1 f0 f1 ck
          have S := S2
          clear S2
          obtain ⟨r0, r1⟩ : _ ∧ _ := ⟨S.out.own.cell 0, S.out.own.cell 1⟩
          obtain ⟨z0, z1⟩ : _ ∧ _ := ⟨S.out.res.cell 0, S.out.res.cell 1⟩
          have f0 := S.out.res.frozen 0
          have f1 := S.out.res.frozen 1
          have HR := fun (u0 u1 : Value) => rd_set (u := u1) (b := w.heap.size) (i := 1) (rd_set (u := u0) (b := w.heap.size) (i := 0) S.out.rd hg0) hg0
          have HG := fun (u0 u1 : Value) => grown_set (b := w.heap.size) (i := 1) (grown_set (b := w.heap.size) (i := 0) S.out.gr (Nat.le_refl _) u0) (Nat.le_refl _) u1
          replace HR := Lib.hid HR
          replace HG := Lib.hid HG
          clear S
          go_wp2
          refine bodyPost_ret (v := .agg #[.int .i64 0, .int .i64 y8]) (by simp [results, Tryz.results99, go_sem, z0, z1]) rfl ?_
          exact ⟨_, _, _, rfl, by omega, by omega, HR.out _ _, by omega, HG.out _ _⟩
      · go_wp2_with (fail)
        refine (pick_any g _ 12 _ S.out.rd (by omega) (by omega) (by omega)).mono ?_
        rintro e V1 ⟨k1, rfl, hk1, hr1, hg1, -⟩
        replace S := Lib.hid (S.out.pick hr1 hg1)
        clear hr1 hg1
        go_wp2_with (fail)
        refine (pick_any g _ 250 _ S.out.rd (by omega) (by omega) (by omega)).mono ?_
        rintro e V2 ⟨k2, rfl, hk2, hr2, hg2, -⟩
        replace S := Lib.hid (S.out.pick hr2 hg2)
        clear hr2 hg2
        go_wp2_with (fail)
        refine (pick_any g _ 250 _ S.out.rd (by omega) (by omega) (by omega)).mono ?_
        rintro e V3 ⟨k3, rfl, hk3, hr3, hg3, -⟩
        replace S := Lib.hid (S.out.pick hr3 hg3)
        clear hr3 hg3
        have t1 : IntKind.i64.wrap (k3 * 40) = k3 * 40 := IntWalk.i64_in _ (by omega)
        have SL := Lib.hid (S.out.lit (.cells #[.int .i64 k1, .int .i64 k2, .int .i64 (k3 * 40)] 3))
        have kL := Lib.hid (Blk.new V3 3 #[.int .i64 k1, .int .i64 k2, .int .i64 (k3 * 40)])
        have hgl : g < V3.heap.size := S.out.rd.lt
        go_wp2_with (fail)
        refine (pick_any g _ 3 _ SL.out.rd (by omega) (by omega) (by omega)).mono ?_
        rintro e V4 ⟨k4, rfl, hk4, hr4, hg4, -⟩
        obtain ⟨kk4, rfl⟩ : ∃ kk : Nat, k4 = (kk : Int) := ⟨k4.toNat, by omega⟩
        replace S := Lib.hid (SL.out.pick hr4 hg4)
        have kL2 := kL.out.grown hg4 (by simp; omega)
        obtain ⟨y4, hy4, hb4⟩ := pick3i (k1) (k2) ((k3 * 40)) 10000 kk4 (by omega) (by omega) (by omega) (by omega)
        have ck : V4.cell? ⟨V3.heap.size, kk4, none⟩ = some (.int .i64 y4) := (kL2.cell kk4).trans hy4
        have i0 : (0 : Int) ≤ (kk4 : Int) := by omega
        have i1 : (kk4 : Int) < 3 := by omega
        have r0 := S.out.own.cell 0
        have r1 := S.out.own.cell 1
        have f0 := S.out.own.frozen 0
        have f1 := S.out.own.frozen 1
        have S2 := Lib.hid (S.out.setN y4)
        clear hr4 hg4 kL kL2 SL hy4 S
        go_upto_region 4 with (fail)
        generalize V4.setCell ⟨q, 1, none⟩ (.int .i64 y4) = V5 at *
        clear r0 r1 f0 f1 ck
        have S := S2
        clear S2
        go_wp2_with (fail)
        refine (odd_any g _ 40 _ S.out.rd (by omega) (by omega) (by omega)).mono ?_
        rintro e V7 ⟨tb, q7, rfl, hq7, hr7, hg7, -⟩
        replace S := Lib.hid (S.out.pick hr7 hg7)
        clear hr7 hg7
        cases tb
        · obtain ⟨r0, r1⟩ : _ ∧ _ := ⟨S.out.own.cell 0, S.out.own.cell 1⟩
          obtain ⟨z0, z1⟩ : _ ∧ _ := ⟨S.out.res.cell 0, S.out.res.cell 1⟩
          have f0 := S.out.res.frozen 0
          have f1 := S.out.res.frozen 1
          have HR := fun (u0 u1 : Value) => rd_set (u := u1) (b := w.heap.size) (i := 1) (rd_set (u := u0) (b := w.heap.size) (i := 0) S.out.rd hg0) hg0
          have HG := fun (u0 u1 : Value) => grown_set (b := w.heap.size) (i := 1) (grown_set (b := w.heap.size) (i := 0) S.out.gr (Nat.le_refl _) u0) (Nat.le_refl _) u1
          replace HR := Lib.hid HR
          replace HG := Lib.hid HG
          clear S
          go_wp2
          refine bodyPost_ret (v := .agg #[.int .i64 1, .int .i64 y4]) (by simp [results, Tryz.results99, go_sem, z0, z1]) rfl ?_
          exact ⟨_, _, _, rfl, by omega, by omega, HR.out _ _, by omega, HG.out _ _⟩
        · have SL := Lib.hid (S.out.lit (.cells #[.int .i64 (-1), .int .i64 1000000, .int .i64 7] 3))
          have kL := Lib.hid (Blk.new V7 3 #[.int .i64 (-1), .int .i64 1000000, .int .i64 7])
          have hgl : g < V7.heap.size := S.out.rd.lt
          go_wp2_with (fail)
          refine (pick_any g _ 3 _ SL.out.rd (by omega) (by omega) (by omega)).mono ?_
          rintro e V8 ⟨k8, rfl, hk8, hr8, hg8, -⟩
          obtain ⟨kk8, rfl⟩ : ∃ kk : Nat, k8 = (kk : Int) := ⟨k8.toNat, by omega⟩
          replace S := Lib.hid (SL.out.pick hr8 hg8)
          have kL2 := kL.out.grown hg8 (by simp; omega)
          obtain ⟨y8, hy8, hb8⟩ := pick3i ((-1)) (1000000) (7) 1000000 kk8 (by omega) (by omega) (by omega) (by omega)
          have ck : V8.cell? ⟨V7.heap.size, kk8, none⟩ = some (.int .i64 y8) := (kL2.cell kk8).trans hy8
          have i0 : (0 : Int) ≤ (kk8 : Int) := by omega
          have i1 : (kk8 : Int) < 3 := by omega
          have r0 := S.out.own.cell 0
          have r1 := S.out.own.cell 1
          have f0 := S.out.own.frozen 0
          have f1 := S.out.own.frozen 1
          have S2 := Lib.hid (S.out.setN y8)
          clear hr8 hg8 kL kL2 SL hy8 S
          go_upto_region 6 with (fail)
          generalize V8.setCell ⟨q, 1, none⟩ (.int .i64 y8) = V9 at *
          clear r0 r1 f0 f1 ck
          have S := S2
          clear S2
          obtain ⟨r0, r1⟩ : _ ∧ _ := ⟨S.out.own.cell 0, S.out.own.cell 1⟩
          obtain ⟨z0, z1⟩ : _ ∧ _ := ⟨S.out.res.cell 0, S.out.res.cell 1⟩
          have f0 := S.out.res.frozen 0
          have f1 := S.out.res.frozen 1
          have HR := fun (u0 u1 : Value) => rd_set (u := u1) (b := w.heap.size) (i := 1) (rd_set (u := u0) (b := w.heap.size) (i := 0) S.out.rd hg0) hg0
          have HG := fun (u0 u1 : Value) => grown_set (b := w.heap.size) (i := 1) (grown_set (b := w.heap.size) (i := 0) S.out.gr (Nat.le_refl _) u0) (Nat.le_refl _) u1
          replace HR := Lib.hid HR
          replace HG := Lib.hid HG
          clear S
          go_wp2
          refine bodyPost_ret (v := .agg #[.int .i64 1, .int .i64 y8]) (by simp [results, Tryz.results99, go_sem, z0, z1]) rfl ?_
          exact ⟨_, _, _, rfl, by omega, by omega, HR.out _ _, by omega, HG.out _ _⟩
      · go_wp2_with (fail)
        refine (pick_any g _ 12 _ S.out.rd (by omega) (by omega) (by omega)).mono ?_
        rintro e V1 ⟨k1, rfl, hk1, hr1, hg1, -⟩
        replace S := Lib.hid (S.out.pick hr1 hg1)
        clear hr1 hg1
        go_wp2_with (fail)
        refine (pick_any g _ 250 _ S.out.rd (by omega) (by omega) (by omega)).mono ?_
        rintro e V2 ⟨k2, rfl, hk2, hr2, hg2, -⟩
        replace S := Lib.hid (S.out.pick hr2 hg2)
        clear hr2 hg2
        go_wp2_with (fail)
        refine (pick_any g _ 250 _ S.out.rd (by omega) (by omega) (by omega)).mono ?_
        rintro e V3 ⟨k3, rfl, hk3, hr3, hg3, -⟩
        replace S := Lib.hid (S.out.pick hr3 hg3)
        clear hr3 hg3
        have t1 : IntKind.i64.wrap (k3 * 40) = k3 * 40 := IntWalk.i64_in _ (by omega)
        have SL := Lib.hid (S.out.lit (.cells #[.int .i64 k1, .int .i64 k2, .int .i64 (k3 * 40)] 3))
        have kL := Lib.hid (Blk.new V3 3 #[.int .i64 k1, .int .i64 k2, .int .i64 (k3 * 40)])
        have hgl : g < V3.heap.size := S.out.rd.lt
        go_wp2_with (fail)
        refine (pick_any g _ 3 _ SL.out.rd (by omega) (by omega) (by omega)).mono ?_
        rintro e V4 ⟨k4, rfl, hk4, hr4, hg4, -⟩
        obtain ⟨kk4, rfl⟩ : ∃ kk : Nat, k4 = (kk : Int) := ⟨k4.toNat, by omega⟩
        replace S := Lib.hid (SL.out.pick hr4 hg4)
        have kL2 := kL.out.grown hg4 (by simp; omega)
        obtain ⟨y4, hy4, hb4⟩ := pick3i (k1) (k2) ((k3 * 40)) 10000 kk4 (by omega) (by omega) (by omega) (by omega)
        have ck : V4.cell? ⟨V3.heap.size, kk4, none⟩ = some (.int .i64 y4) := (kL2.cell kk4).trans hy4
        have i0 : (0 : Int) ≤ (kk4 : Int) := by omega
        have i1 : (kk4 : Int) < 3 := by omega
        have r0 := S.out.own.cell 0
        have r1 := S.out.own.cell 1
        have f0 := S.out.own.frozen 0
        have f1 := S.out.own.frozen 1
        have S2 := Lib.hid (S.out.setN y4)
        clear hr4 hg4 kL kL2 SL hy4 S
        go_upto_region 4 with (fail)
        generalize V4.setCell ⟨q, 1, none⟩ (.int .i64 y4) = V5 at *
        clear r0 r1 f0 f1 ck
        have S := S2
        clear S2
        go_wp2_with (fail)
        refine (odd_any g _ 40 _ S.out.rd (by omega) (by omega) (by omega)).mono ?_
        rintro e V7 ⟨tb, q7, rfl, hq7, hr7, hg7, -⟩
        replace S := Lib.hid (S.out.pick hr7 hg7)
        clear hr7 hg7
        cases tb
        · obtain ⟨r0, r1⟩ : _ ∧ _ := ⟨S.out.own.cell 0, S.out.own.cell 1⟩
          obtain ⟨z0, z1⟩ : _ ∧ _ := ⟨S.out.res.cell 0, S.out.res.cell 1⟩
          have f0 := S.out.res.frozen 0
          have f1 := S.out.res.frozen 1
          have HR := fun (u0 u1 : Value) => rd_set (u := u1) (b := w.heap.size) (i := 1) (rd_set (u := u0) (b := w.heap.size) (i := 0) S.out.rd hg0) hg0
          have HG := fun (u0 u1 : Value) => grown_set (b := w.heap.size) (i := 1) (grown_set (b := w.heap.size) (i := 0) S.out.gr (Nat.le_refl _) u0) (Nat.le_refl _) u1
          replace HR := Lib.hid HR
          replace HG := Lib.hid HG
          clear S
          go_wp2
          refine bodyPost_ret (v := .agg #[.int .i64 2, .int .i64 y4]) (by simp [results, Tryz.results99, go_sem, z0, z1]) rfl ?_
          exact ⟨_, _, _, rfl, by omega, by omega, HR.out _ _, by omega, HG.out _ _⟩
        · have SL := Lib.hid (S.out.lit (.cells #[.int .i64 (-1), .int .i64 1000000, .int .i64 7] 3))
          have kL := Lib.hid (Blk.new V7 3 #[.int .i64 (-1), .int .i64 1000000, .int .i64 7])
          have hgl : g < V7.heap.size := S.out.rd.lt
          go_wp2_with (fail)
          refine (pick_any g _ 3 _ SL.out.rd (by omega) (by omega) (by omega)).mono ?_
          rintro e V8 ⟨k8, rfl, hk8, hr8, hg8, -⟩
          obtain ⟨kk8, rfl⟩ : ∃ kk : Nat, k8 = (kk : Int) := ⟨k8.toNat, by omega⟩
          replace S := Lib.hid (SL.out.pick hr8 hg8)
          have kL2 := kL.out.grown hg8 (by simp; omega)
          obtain ⟨y8, hy8, hb8⟩ := pick3i ((-1)) (1000000) (7) 1000000 kk8 (by omega) (by omega) (by omega) (by omega)
          have ck : V8.cell? ⟨V7.heap.size, kk8, none⟩ = some (.int .i64 y8) := (kL2.cell kk8).trans hy8
          have i0 : (0 : Int) ≤ (kk8 : Int) := by omega
          have i1 : (kk8 : Int) < 3 := by omega
          have r0 := S.out.own.cell 0
          have r1 := S.out.own.cell 1
          have f0 := S.out.own.frozen 0
          have f1 := S.out.own.frozen 1
          have S2 := Lib.hid (S.out.setN y8)
          clear hr8 hg8 kL kL2 SL hy8 S
          go_upto_region 6 with (fail)
          generalize V8.setCell ⟨q, 1, none⟩ (.int .i64 y8) = V9 at *
          clear r0 r1 f0 f1 ck
          have S := S2
          clear S2
          obtain ⟨r0, r1⟩ : _ ∧ _ := ⟨S.out.own.cell 0, S.out.own.cell 1⟩
          obtain ⟨z0, z1⟩ : _ ∧ _ := ⟨S.out.res.cell 0, S.out.res.cell 1⟩
          have f0 := S.out.res.frozen 0
          have f1 := S.out.res.frozen 1
          have HR := fun (u0 u1 : Value) => rd_set (u := u1) (b := w.heap.size) (i := 1) (rd_set (u := u0) (b := w.heap.size) (i := 0) S.out.rd hg0) hg0
          have HG := fun (u0 u1 : Value) => grown_set (b := w.heap.size) (i := 1) (grown_set (b := w.heap.size) (i := 0) S.out.gr (Nat.le_refl _) u0) (Nat.le_refl _) u1
          replace HR := Lib.hid HR
          replace HG := Lib.hid HG
          clear S
          go_wp2
          refine bodyPost_ret (v := .agg #[.int .i64 2, .int .i64 y8]) (by simp [results, Tryz.results99, go_sem, z0, z1]) rfl ?_
          exact ⟨_, _, _, rfl, by omega, by omega, HR.out _ _, by omega, HG.out _ _⟩
    · have n0 : (y == 0) = false := by simpa using fun e => hk (.inl e)
      have n1 : (y == 1) = false := by simpa using fun e => hk (.inr (.inl e))
      have n2 : (y == 2) = false := by simpa using fun e => hk (.inr (.inr e))
      have m0 : ¬ y = 0 := fun e => hk (.inl e)
      have m1 : ¬ y = 1 := fun e => hk (.inr (.inl e))
      have m2 : ¬ y = 2 := fun e => hk (.inr (.inr e))
      go_wp2_with (fail)
      refine (odd_any g _ 40 _ S.out.rd (by omega) (by omega) (by omega)).mono ?_
      rintro e V7 ⟨tb, q7, rfl, hq7, hr7, hg7, -⟩
      replace S := Lib.hid (S.out.pick hr7 hg7)
      clear hr7 hg7
      cases tb
      · obtain ⟨r0, r1⟩ : _ ∧ _ := ⟨S.out.own.cell 0, S.out.own.cell 1⟩
        obtain ⟨z0, z1⟩ : _ ∧ _ := ⟨S.out.res.cell 0, S.out.res.cell 1⟩
        have f0 := S.out.res.frozen 0
        have f1 := S.out.res.frozen 1
        have HR := fun (u0 u1 : Value) => rd_set (u := u1) (b := w.heap.size) (i := 1) (rd_set (u := u0) (b := w.heap.size) (i := 0) S.out.rd hg0) hg0
        have HG := fun (u0 u1 : Value) => grown_set (b := w.heap.size) (i := 1) (grown_set (b := w.heap.size) (i := 0) S.out.gr (Nat.le_refl _) u0) (Nat.le_refl _) u1
        replace HR := Lib.hid HR
        replace HG := Lib.hid HG
        clear S
        go_wp2
        refine bodyPost_ret (v := .agg #[.int .i64 y, .int .i64 0]) (by simp [results, Tryz.results99, go_sem, z0, z1]) rfl ?_
        exact ⟨_, _, _, rfl, by omega, by omega, HR.out _ _, by omega, HG.out _ _⟩
      · have SL := Lib.hid (S.out.lit (.cells #[.int .i64 (-1), .int .i64 1000000, .int .i64 7] 3))
        have kL := Lib.hid (Blk.new V7 3 #[.int .i64 (-1), .int .i64 1000000, .int .i64 7])
        have hgl : g < V7.heap.size := S.out.rd.lt
        go_wp2_with (fail)
        refine (pick_any g _ 3 _ SL.out.rd (by omega) (by omega) (by omega)).mono ?_
        rintro e V8 ⟨k8, rfl, hk8, hr8, hg8, -⟩
        obtain ⟨kk8, rfl⟩ : ∃ kk : Nat, k8 = (kk : Int) := ⟨k8.toNat, by omega⟩
        replace S := Lib.hid (SL.out.pick hr8 hg8)
        have kL2 := kL.out.grown hg8 (by simp; omega)
        obtain ⟨y8, hy8, hb8⟩ := pick3i ((-1)) (1000000) (7) 1000000 kk8 (by omega) (by omega) (by omega) (by omega)
        have ck : V8.cell? ⟨V7.heap.size, kk8, none⟩ = some (.int .i64 y8) := (kL2.cell kk8).trans hy8
        have i0 : (0 : Int) ≤ (kk8 : Int) := by omega
        have i1 : (kk8 : Int) < 3 := by omega
        have r0 := S.out.own.cell 0
        have r1 := S.out.own.cell 1
        have f0 := S.out.own.frozen 0
        have f1 := S.out.own.frozen 1
        have S2 := Lib.hid (S.out.setN y8)
        clear hr8 hg8 kL kL2 SL hy8 S
        go_upto_region 6 with (fail)
        generalize V8.setCell ⟨q, 1, none⟩ (.int .i64 y8) = V9 at *
        clear r0 r1 f0 f1 ck
        have S := S2
        clear S2
        obtain ⟨r0, r1⟩ : _ ∧ _ := ⟨S.out.own.cell 0, S.out.own.cell 1⟩
        obtain ⟨z0, z1⟩ : _ ∧ _ := ⟨S.out.res.cell 0, S.out.res.cell 1⟩
        have f0 := S.out.res.frozen 0
        have f1 := S.out.res.frozen 1
        have HR := fun (u0 u1 : Value) => rd_set (u := u1) (b := w.heap.size) (i := 1) (rd_set (u := u0) (b := w.heap.size) (i := 0) S.out.rd hg0) hg0
        have HG := fun (u0 u1 : Value) => grown_set (b := w.heap.size) (i := 1) (grown_set (b := w.heap.size) (i := 0) S.out.gr (Nat.le_refl _) u0) (Nat.le_refl _) u1
        replace HR := Lib.hid HR
        replace HG := Lib.hid HG
        clear S
        go_wp2
        refine bodyPost_ret (v := .agg #[.int .i64 y, .int .i64 y8]) (by simp [results, Tryz.results99, go_sem, z0, z1]) rfl ?_
        exact ⟨_, _, _, rfl, by omega, by omega, HR.out _ _, by omega, HG.out _ _⟩
  · rintro l a w' ⟨s3, s4, s5, s6, s7, s8, s9, s10, s11, s12, s13, s14, rfl, hF⟩ hsz i o hlt ho hun hall
    have hlt' : i < 13 := hlt
    refine wpOp_step ho (fun K' hK => ?_)
    replace hK := Lib.hid hK
    obtain rfl | rfl | rfl | rfl | rfl | rfl | rfl | rfl | rfl | rfl | rfl | rfl | rfl : i = 0 ∨ i = 1 ∨ i = 2 ∨ i = 3 ∨ i = 4 ∨ i = 5 ∨ i = 6 ∨ i = 7 ∨ i = 8 ∨ i = 9 ∨ i = 10 ∨ i = 11 ∨ i = 12 := by omega
    · simp only [List.getElem?_toArray, List.getElem?_cons_zero, Option.some.injEq] at ho
      subst ho
      replace hF := Lib.hid hF
      clear hall
      go_simp
      refine hK.out _ _ ?_
      exact ⟨_, _, _, _, _, _, _, _, _, _, _, _, rfl, hF.out.up0 hsz hun⟩
    · simp only [List.getElem?_toArray, List.getElem?_cons_succ, List.getElem?_cons_zero, Option.some.injEq] at ho
      subst ho
      replace hF := Lib.hid hF
      clear hall
      go_simp
      refine hK.out _ _ ?_
      exact ⟨_, _, _, _, _, _, _, _, _, _, _, _, rfl, hF.out.up1 hsz hun rfl⟩
    · simp only [List.getElem?_toArray, List.getElem?_cons_succ, List.getElem?_cons_zero, Option.some.injEq] at ho
      subst ho
      have e1 := hF.f1 (hall ⟨1, Ground.data⟩ (by simp) rfl)
      subst e1
      obtain ⟨q, hr', hq⟩ := hF.rd
      have hq3 : q ≤ 100000 := by omega
      replace hF := Lib.hid hF
      clear hall
      go_simp
      go_at_call 41
      refine (pick_any g q 7 _ hr' (by omega) (by omega) (by omega)).mono ?_
      rintro e V ⟨k, rfl, hk, hr2, hg, -⟩
      obtain ⟨kk, rfl⟩ : ∃ kk : Nat, k = (kk : Int) := ⟨k.toNat, by omega⟩
      go_simp
      refine hK.out _ _ ?_
      exact ⟨_, _, _, _, _, _, _, _, _, _, _, _, rfl, hF.out.up2 hsz hun ⟨kk, by omega, rfl⟩ hg hq hr2⟩
    · simp only [List.getElem?_toArray, List.getElem?_cons_succ, List.getElem?_cons_zero, Option.some.injEq] at ho
      subst ho
      obtain ⟨p, e1, b, hp⟩ := hF.f0 (hall ⟨0, Ground.data⟩ (by simp) rfl)
      subst e1
      obtain ⟨k, hk, e2⟩ := hF.f2 (hall ⟨2, Ground.data⟩ (by simp) rfl)
      subst e2
      have k0 : (0 : Int) ≤ (k : Int) := by omega
      have k1 : (k : Int) < 7 := by omega
      replace b := Lib.hid b
      replace hF := Lib.hid hF
      clear hall
      go_simp
      refine hK.out _ _ ?_
      exact ⟨_, _, _, _, _, _, _, _, _, _, _, _, rfl, hF.out.up3 hsz hun ⟨p, k, hk, rfl, b.out, hp⟩⟩
    · simp only [List.getElem?_toArray, List.getElem?_cons_succ, List.getElem?_cons_zero, Option.some.injEq] at ho
      subst ho
      obtain ⟨p, k, hk, e1, b, hp⟩ := hF.f3 (hall ⟨3, Ground.data⟩ (by simp) rfl)
      subst e1
      obtain ⟨y, hy, ck⟩ := lit7_at b hk
      replace b := Lib.hid b
      replace hF := Lib.hid hF
      clear hall
      go_simp
      refine hK.out _ _ ?_
      exact ⟨_, _, _, _, _, _, _, _, _, _, _, _, rfl, hF.out.up4 hsz hun ⟨y, hy, rfl⟩⟩
    · simp only [List.getElem?_toArray, List.getElem?_cons_succ, List.getElem?_cons_zero, Option.some.injEq] at ho
      subst ho
      replace hF := Lib.hid hF
      clear hall
      go_simp
      refine hK.out _ _ ?_
      exact ⟨_, _, _, _, _, _, _, _, _, _, _, _, rfl, hF.out.up5 hsz hun rfl⟩
    · simp only [List.getElem?_toArray, List.getElem?_cons_succ, List.getElem?_cons_zero, Option.some.injEq] at ho
      subst ho
      have e1 := hF.f5 (hall ⟨5, Ground.data⟩ (by simp) rfl)
      subst e1
      obtain ⟨q, hr', hq⟩ := hF.rd
      have hq3 : q ≤ 100000 := by omega
      replace hF := Lib.hid hF
      clear hall
      go_simp
      go_at_call 41
      refine (pick_any g q 60 _ hr' (by omega) (by omega) (by omega)).mono ?_
      rintro e V ⟨k, rfl, hk, hr2, hg, -⟩
      go_simp
      refine hK.out _ _ ?_
      exact ⟨_, _, _, _, _, _, _, _, _, _, _, _, rfl, hF.out.up6 hsz hun ⟨k, by omega, rfl⟩ hg hq hr2⟩
    · simp only [List.getElem?_toArray, List.getElem?_cons_succ, List.getElem?_cons_zero, Option.some.injEq] at ho
      subst ho
      obtain ⟨y, hy, e1⟩ := hF.f6 (hall ⟨6, Ground.data⟩ (by simp) rfl)
      subst e1
      have t1 : y.tdiv 59 = y / 59 := Int.tdiv_eq_ediv_of_nonneg (by omega)
      have t2 : IntKind.i64.wrap (y / 59) = y / 59 := IntWalk.i64_in _ (by omega)
      have t3 : IntKind.i64.wrap (y.tdiv 59) = y / 59 := by rw [t1]; exact t2
      replace hF := Lib.hid hF
      clear hall
      go_simp
      refine hK.out _ _ ?_
      exact ⟨_, _, _, _, _, _, _, _, _, _, _, _, rfl, hF.out.up7 hsz hun ⟨y / 59, by omega, rfl⟩⟩
    · simp only [List.getElem?_toArray, List.getElem?_cons_succ, List.getElem?_cons_zero, Option.some.injEq] at ho
      subst ho
      obtain ⟨y, hy, e1⟩ := hF.f7 (hall ⟨7, Ground.data⟩ (by simp) rfl)
      subst e1
      have t2 : IntKind.i64.wrap (y * 5) = y * 5 := IntWalk.i64_in _ (by omega)
      replace hF := Lib.hid hF
      clear hall
      go_simp
      refine hK.out _ _ ?_
      exact ⟨_, _, _, _, _, _, _, _, _, _, _, _, rfl, hF.out.up8 hsz hun ⟨y * 5, by omega, rfl⟩⟩
    · simp only [List.getElem?_toArray, List.getElem?_cons_succ, List.getElem?_cons_zero, Option.some.injEq] at ho
      subst ho
      obtain ⟨y, hy, e1⟩ := hF.f4 (hall ⟨4, Ground.data⟩ (by simp) rfl)
      subst e1
      obtain ⟨z, hz, e2⟩ := hF.f8 (hall ⟨8, Ground.data⟩ (by simp) rfl)
      subst e2
      have t2 : IntKind.i64.wrap (y + z) = y + z := IntWalk.i64_in _ (by omega)
      replace hF := Lib.hid hF
      clear hall
      go_simp
      refine hK.out _ _ ?_
      exact ⟨_, _, _, _, _, _, _, _, _, _, _, _, rfl, hF.out.up9 hsz hun ⟨y + z, by omega, rfl⟩⟩
    · simp only [List.getElem?_toArray, List.getElem?_cons_succ, List.getElem?_cons_zero, Option.some.injEq] at ho
      subst ho
      obtain ⟨y, hy, e1⟩ := hF.f9 (hall ⟨9, Ground.data⟩ (by simp) rfl)
      subst e1
      replace hF := Lib.hid hF
      clear hall
      go_simp
      refine hK.out _ _ ?_
      exact ⟨_, _, _, _, _, _, _, _, _, _, _, _, rfl, hF.out.up10 hsz hun ⟨y, hy, rfl⟩⟩
    · simp only [List.getElem?_toArray, List.getElem?_cons_succ, List.getElem?_cons_zero, Option.some.injEq] at ho
      subst ho
      replace hF := Lib.hid hF
      clear hall
      go_simp
      refine hK.out _ _ ?_
      exact ⟨_, _, _, _, _, _, _, _, _, _, _, _, rfl, hF.out.up11 hsz hun⟩
    · simp only [List.getElem?_toArray, List.getElem?_cons_succ, List.getElem?_cons_zero, Option.some.injEq] at ho
      subst ho
      obtain ⟨y, hy, e1⟩ := hF.f10 (hall ⟨10, Ground.data⟩ (by simp) rfl)
      subst e1
      have hA := (hall ⟨11, Ground.data⟩ (by simp) rfl)
      obtain ⟨q, e3, hwq, hh⟩ := hF.f11 hA
      subst e3
      have hz := hh hun
      have r0 := hz.cell 0
      have r1 := hz.cell 1
      have f0 := hz.frozen 0
      have f1 := hz.frozen 1
      replace hz := Lib.hid hz
      replace hF := Lib.hid hF
      clear hall
      go_simp
      refine hK.out _ _ ?_
      exact ⟨_, _, _, _, _, _, _, _, _, _, _, _, rfl, hF.out.up12 hsz hun hA rfl hwq hy hz.out⟩
  · exact ⟨_, _, _, _, _, _, _, _, _, _, _, _, rfl, (fun h => by simp at h), (fun h => by simp at h), (fun h => by simp at h), (fun h => by simp at h), (fun h => by simp at h), (fun h => by simp at h), (fun h => by simp at h), (fun h => by simp at h), (fun h => by simp at h), (fun h => by simp at h), (fun h => by simp at h), (fun h => by simp at h), (fun h => by simp at h), (fun h => by simp at h), ⟨p, hR.out.drew, Nat.le_refl _⟩, (World.grownBy.refl W _).trans (grown_drew (World.grownBy.refl W _)), hgW⟩
end Go.Proofs.YtmhgpbfogdoaeaaGreatDoor

/- DrawKs -/
namespace Go.Proofs.YtmhgpbfogdoaeaaGreatDoor
open Go.RowKit

/-- While a desk is drawn in world w: the reader at g, read q times; the desk d in its box b; the result's block. -/
structure KSt (w : World) (g : Nat) (wx : World) (b : Nat) (d : Dk) (cs : Array Value) (q : Nat) : Prop where
  rd : Rd wx g q
  res : Blk wx w.heap.size 33 #[.slice none 0 0, .slice none 0 0, .slice none 0 0, .int .i64 0, .slice none 0 0]
  box : Blk wx b 33 cs
  own : WDk wx w.heap.size (.agg cs) d
  sm : SmallD d
  gr : w.grownBy wx (some g)
  g0 : g < w.heap.size
  b0 : w.heap.size < b
section
variable {w wx w' : World} {g b q q' : Nat} {d d' : Dk} {cs : Array Value}
theorem KSt.pick (h : KSt w g wx b d cs q) (hr : Rd w' g q') (hg : wx.grownBy w' (some g)) : KSt w g w' b d cs q' :=
  ⟨hr, h.res.grown hg (by simp; have := h.g0; omega), h.box.grown hg (by simp; have := h.g0; have := h.b0; omega), h.own.keptG hg h.g0, h.sm, h.gr.trans hg, h.g0, h.b0⟩
theorem KSt.below (h : KSt w g wx b d cs q) (hb : Below wx.heap.size wx w') : KSt w g w' b d cs q :=
  ⟨h.rd.below hb (Nat.le_refl _), h.res.below hb h.res.lt, h.box.below hb h.box.lt, h.own.below hb (Nat.le_refl _), h.sm, h.gr.trans (grown_of_below (some g) hb), h.g0, h.b0⟩
theorem KSt.lit (h : KSt w g wx b d cs q) (o : Obj) : KSt w g (wx.alloc o) b d cs q := h.below ((Below.refl _ _).alloc (Nat.le_refl _) o)
theorem KSt.start {w3 : World} (hr : Rd w3 g q) (hres : Blk w3 w.heap.size 33 #[.slice none 0 0, .slice none 0 0, .slice none 0 0, .int .i64 0, .slice none 0 0]) (hw : WDk w3 w.heap.size (.agg cs) d) (hs : SmallD d) (hgr : w.grownBy w3 (some g)) (g0 : g < w.heap.size) :
    KSt w g (w3.alloc (.cells cs 33)) w3.heap.size d cs q :=
  have hb := (Below.refl w3.heap.size w3).alloc (Nat.le_refl _) (.cells cs 33)
  ⟨hr.alloc' _, hres.alloc _, Blk.new _ _ _, hw.below hb (Nat.le_refl _), hs, hgr.trans (grown_of_below (some g) hb), g0, hres.lt⟩
/-- Another desk is put into the box. -/
theorem KSt.put {c0 c1 c2 c3 c4 u0 u1 u2 u3 u4 : Value} (h : KSt w g wx b d #[c0, c1, c2, c3, c4] q) (hd : WDk wx w.heap.size (.agg #[u0, u1, u2, u3, u4]) d') (hs : SmallD d') :
    KSt w g (((((wx.setCell ⟨b, 0, none⟩ u0).setCell ⟨b, 1, none⟩ u1).setCell ⟨b, 2, none⟩ u2).setCell ⟨b, 3, none⟩ u3).setCell ⟨b, 4, none⟩ u4) b d' #[u0, u1, u2, u3, u4] q := by
  have hg0 := h.g0
  have hb0 := h.b0
  have hne : w.heap.size ≠ b := by omega
  have hgb : g < b := by omega
  refine ⟨rd_set (rd_set (rd_set (rd_set (rd_set h.rd hgb _) hgb _) hgb _) hgb _) hgb _, ((((h.res.far hne _).far hne _).far hne _).far hne _).far hne _, ?_, own_wd5 hd h.box, hs, ?_, hg0, hb0⟩
  · have := ((((h.box.set_ 0 u0).set_ 1 u1).set_ 2 u2).set_ 3 u3).set_ 4 u4
    simpa using this
  · have hle : w.heap.size ≤ b := by omega
    exact grown_set (grown_set (grown_set (grown_set (grown_set h.gr hle _) hle _) hle _) hle _) hle _
theorem WDk.shape {v : Value} {B : Nat} (h : WDk w B v d) : ∃ A1 c1 A2 c2 A3 c3 A5 c5, v = .agg #[.slice A1 d.t.us.length c1, .slice A2 d.t.bs.length c2, .slice A3 d.t.ns.length c3, .int .i64 d.now, .slice A5 d.past.length c5] :=
  let ⟨A1, c1, A2, c2, A3, c3, A5, c5, e, _⟩ := h.dsk.ex; ⟨A1, c1, A2, c2, A3, c3, A5, c5, e⟩
end
/-- Some desk with at most m numbers of before lies in the box. -/
def KAt (w : World) (g p m : Nat) (wx : World) (b : Nat) : Prop := ∃ d A1 c1 A2 c2 A3 c3 A5 c5 q, KSt w g wx b d #[.slice A1 d.t.us.length c1, .slice A2 d.t.bs.length c2, .slice A3 d.t.ns.length c3, .int .i64 d.now, .slice A5 d.past.length c5] q ∧ d.past.length ≤ m ∧ q ≤ p
/-- A desk is drawn by a reader. -/
def RetKDesk (w : World) (g p : Nat) (e : Ending) (w' : World) : Prop := ∃ v d q, e = .returned v ∧ MDk w' w.heap.size v d ∧ SmallD d ∧ Rd w' g q ∧ q ≤ p + 200 ∧ w.grownBy w' (some g)

theorem own_offK {a b : World} {B n : Nat} {e : TypeId} {u : Value} {xs : List Value} {row : Option Nat} (h : a.ownsRow B e 1 u n xs) (hg : a.grownBy b row) (hne : ∀ k, u.ownBlock = some k → row ≠ some k) : b.ownsRow B e 1 u n xs := by
  refine h.kept hg ?_
  cases hv : u.ownBlock with
  | none => exact .inl rfl
  | some k => exact .inr fun e => hne k hv e.symm
section
variable {w wx w' : World} {g b q q' c1 c2 c3 c5 : Nat} {A1 A2 A3 A5 : Option Addr} {d : Dk} {cs : Array Value}
theorem KSt.past (h : KSt w g wx b d #[.slice A1 d.t.us.length c1, .slice A2 d.t.bs.length c2, .slice A3 d.t.ns.length c3, .int .i64 d.now, .slice A5 d.past.length c5] q) : OwnI wx w.heap.size (.slice A5 d.past.length c5) d.past := by
  obtain ⟨v1, v2, v3, v5, e, -, h5, -⟩ := h.own.ex
  cases e
  exact h5
/-- The box's number is 0. -/
theorem KSt.now0 (h : KSt w g wx b d #[.slice A1 d.t.us.length c1, .slice A2 d.t.bs.length c2, .slice A3 d.t.ns.length c3, .int .i64 d.now, .slice A5 d.past.length c5] q) : KSt w g (wx.setCell ⟨b, 3, none⟩ (.int .i64 0)) b ⟨d.t, 0, d.past⟩ #[.slice A1 d.t.us.length c1, .slice A2 d.t.bs.length c2, .slice A3 d.t.ns.length c3, .int .i64 0, .slice A5 d.past.length c5] q := by
  have hb0 := h.b0
  have hg0 := h.g0
  have h2 := h.own.setM (i := 3) (u := .int .i64 0) h.box
  refine ⟨rd_set h.rd (by omega) _, h.res.far (by show w.heap.size ≠ b; omega) _, ?_, ?_, ⟨h.sm.t, by show (-200000 : Int) ≤ 0 ∧ (0 : Int) ≤ 200000; omega, h.sm.len, h.sm.bd⟩, grown_set h.gr (by omega) _, hg0, hb0⟩
  · have := h.box.set_ 3 (.int .i64 0)
    simpa using this
  · obtain ⟨v1, v2, v3, v5, e, ht, h5, ap⟩ := h2.ex
    cases e
    exact ⟨_, _, _, _, rfl, ht, h5, ap⟩
theorem KSt.mid (h : KSt w g wx b d #[.slice A1 d.t.us.length c1, .slice A2 d.t.bs.length c2, .slice A3 d.t.ns.length c3, .int .i64 d.now, .slice A5 d.past.length c5] q) (hg : wx.grownBy w' (Value.slice A5 d.past.length c5).ownBlock) : Blk w' b 33 #[.slice A1 d.t.us.length c1, .slice A2 d.t.bs.length c2, .slice A3 d.t.ns.length c3, .int .i64 d.now, .slice A5 d.past.length c5] ∧ Blk w' w.heap.size 33 #[.slice none 0 0, .slice none 0 0, .slice none 0 0, .int .i64 0, .slice none 0 0] :=
  ⟨h.box.grown hg (Ne.symm (own_blk_ne h.past h.box (by decide))), h.res.grown hg (Ne.symm (own_blk_ne h.past h.res (by decide)))⟩
/-- A number of before is appended. -/
theorem KSt.snoc (h : KSt w g wx b d #[.slice A1 d.t.us.length c1, .slice A2 d.t.bs.length c2, .slice A3 d.t.ns.length c3, .int .i64 d.now, .slice A5 d.past.length c5] q) {v' : Value} (ho : w'.ownsRow w.heap.size 3 1 v' (d.past.length + 1) (d.past.map (Value.int .i64) ++ [.int .i64 0])) (hg : wx.grownBy w' (Value.slice A5 d.past.length c5).ownBlock) (hat : v'.ownBlock = (Value.slice A5 d.past.length c5).ownBlock ∨ v'.ownBlock = some wx.heap.size) (hl : d.past.length ≤ 8) :
    KSt w g (w'.setCell ⟨b, 4, none⟩ v') b ⟨d.t, d.now, d.past ++ [0]⟩ #[.slice A1 d.t.us.length c1, .slice A2 d.t.bs.length c2, .slice A3 d.t.ns.length c3, .int .i64 d.now, v'] q := by
  have hb0 := h.b0
  have hg0 := h.g0
  obtain ⟨hB, hR⟩ := h.mid hg
  have hp := h.past
  have hr := rd_append (w := w) h.g0 h.rd hp hg
  have hgr := grown_append h.gr hp hg
  obtain ⟨v1, v2, v3, v5, e, ht, h5, ap⟩ := h.own.ex
  cases e
  obtain ⟨y1, y2, y3, ee, o1, o2, o3⟩ := ht.ex
  cases ee
  have ho2 : OwnI w' w.heap.size v' (d.past ++ [0]) := by
    unfold OwnI
    rw [List.length_append, List.length_singleton, List.map_append]
    exact ho
  have hT : LTng w' w.heap.size (.agg #[.slice A1 d.t.us.length c1, .slice A2 d.t.bs.length c2, .slice A3 d.t.ns.length c3]) d.t := ⟨_, _, _, rfl, own_offK o1 hg (fun k hk e => own_type_ne o1 hp (by decide) k hk e), own_offK o2 hg (fun k hk e => ap k hk e), own_offK o3 hg (fun k hk e => own_type_ne o3 hp (by decide) k hk e)⟩
  have hap : ∀ k, (Value.slice A2 d.t.bs.length c2).ownBlock = some k → v'.ownBlock ≠ some k := fun k hk e => by
    rcases hat with h1 | h1
    · exact ap k hk (h1.symm.trans e)
    · rw [h1] at e
      cases e
      have := (o2.lt _ hk).2
      omega
  have hW : WDk w' w.heap.size (.agg #[.slice A1 d.t.us.length c1, .slice A2 d.t.bs.length c2, .slice A3 d.t.ns.length c3, .int .i64 d.now, v']) ⟨d.t, d.now, d.past ++ [0]⟩ := ⟨_, _, _, _, rfl, hT, ho2, hap⟩
  refine ⟨rd_set hr (by omega) _, hR.far (by show w.heap.size ≠ b; omega) _, ?_, hW.setM hB, ⟨h.sm.t, h.sm.now, by simp; omega, fun x hx => ?_⟩, grown_set hgr (by omega) _, hg0, hb0⟩
  · have := hB.set_ 4 v'
    simpa using this
  · rcases List.mem_append.1 hx with hm | hm
    · exact h.sm.bd x hm
    · rw [List.mem_singleton] at hm
      subst hm
      exact ⟨by decide, by decide⟩
theorem KSt.finish {p : Nat} {u0 u1 u2 u3 u4 : Value} (h : KSt w g wx b d cs q) (hq : q ≤ p + 200) :
    RetKDesk w g p (.returned (.agg cs)) (((((wx.setCell ⟨w.heap.size, 0, none⟩ u0).setCell ⟨w.heap.size, 1, none⟩ u1).setCell ⟨w.heap.size, 2, none⟩ u2).setCell ⟨w.heap.size, 3, none⟩ u3).setCell ⟨w.heap.size, 4, none⟩ u4) := by
  have hg0 := h.g0
  have hl := Nat.le_refl w.heap.size
  exact ⟨_, d, q, rfl, (own_wd5 h.own h.res).m, h.sm, rd_set (rd_set (rd_set (rd_set (rd_set h.rd hg0 _) hg0 _) hg0 _) hg0 _) hg0 _, hq, grown_set (grown_set (grown_set (grown_set (grown_set h.gr hl _) hl _) hl _) hl _) hl _⟩
theorem KSt.finish0 {p : Nat} {u0 u1 u2 u3 u4 : Value} (h : KSt w g wx b d cs q) (hq : q ≤ p + 200) :
    RetKDesk w g p (.returned (.agg #[.slice none 0 0, .slice none 0 0, .slice none 0 0, .int .i64 0, .slice none 0 0])) (((((wx.setCell ⟨w.heap.size, 0, none⟩ u0).setCell ⟨w.heap.size, 1, none⟩ u1).setCell ⟨w.heap.size, 2, none⟩ u2).setCell ⟨w.heap.size, 3, none⟩ u3).setCell ⟨w.heap.size, 4, none⟩ u4) := by
  have hg0 := h.g0
  have hl := Nat.le_refl w.heap.size
  exact ⟨_, noDk, q, rfl, (own_wd5 (own_wdNo _ _) h.res).m, small_noDk, rd_set (rd_set (rd_set (rd_set (rd_set h.rd hg0 _) hg0 _) hg0 _) hg0 _) hg0 _, hq, grown_set (grown_set (grown_set (grown_set (grown_set h.gr hl _) hl _) hl _) hl _) hl _⟩
end



/-- A drawn desk with at most m numbers of before. -/
structure SmN (m : Nat) (d : Dk) : Prop where
  s : SmallD d
  l : d.past.length ≤ m
/-- While a deed is drawn and done. -/
structure DKL (w1 : World) (g rr : Nat) (DV : Value) (m : Nat) (l : Array Bool) (w : World) (s8 s9 s33 s34 s35 s36 s37 s38 s39 : Value) : Prop where
  f0 : l.getD 0 false = true → s34 = DV
  f1 : l.getD 1 false = true → s35 = .pointer (some ⟨g, 0, none⟩)
  f2 : l.getD 2 false = true → ∃ kd n : Int, s36 = .agg #[.int .i64 kd, .int .i64 n]
  f3 : l.getD 3 false = true → ∃ v b d', s37 = .tuple #[v, .bool b] ∧ WDk w (w1.heap.size) v d' ∧ SmN m d'
  f4 : l.getD 4 false = true → ∃ v b d', s33 = .tuple #[v, .bool b] ∧ WDk w (w1.heap.size) v d' ∧ SmN m d'
  f5 : l.getD 5 false = true → ∃ d', WDk w (w1.heap.size) s38 d' ∧ SmN m d'
  f6 : l.getD 6 false = true → ∃ b, s39 = .bool b
  f7 : l.getD 7 false = true → ∃ q, s8 = .pointer (some ⟨q, 0, none⟩) ∧ w1.heap.size ≤ q ∧ (l.getD 8 false = false → Blk w q 33 #[.slice none 0 0, .slice none 0 0, .slice none 0 0, .int .i64 0, .slice none 0 0])
  f8 : l.getD 8 false = true → ∃ (q : Nat) (u0 u1 u2 u3 u4 : Value) (d' : Dk), s8 = .pointer (some ⟨q, 0, none⟩) ∧ w1.heap.size ≤ q ∧ Blk w q 33 #[u0, u1, u2, u3, u4] ∧ WDk w (w1.heap.size) (.agg #[u0, u1, u2, u3, u4]) d' ∧ SmN m d'
  f9 : l.getD 9 false = true → ∃ b, s9 = .bool b
  da : l.getD 8 false = true → l.getD 7 false = true
  dr : ∃ r, Rd w g r ∧ r ≤ (if l.getD 2 false = true then rr + 20 else rr)
  gr : w1.grownBy w (some g)
  g0 : g < w1.heap.size
section
variable {w1 w w' : World} {g rr m : Nat} {DV : Value} {l : Array Bool} {s8 s9 s33 s34 s35 s36 s37 s38 s39 v : Value}
theorem DKL.up0 (h : DKL w1 g rr DV m l w s8 s9 s33 s34 s35 s36 s37 s38 s39) (hv : v = DV) : DKL w1 g rr DV m (l.setIfInBounds 0 true) w s8 s9 s33 v s35 s36 s37 s38 s39 := by
  exact ⟨(fun _ => hv), (fun h' => h.f1 (listed_set h' (by decide))), (fun h' => h.f2 (listed_set h' (by decide))), (fun h' => h.f3 (listed_set h' (by decide))), (fun h' => h.f4 (listed_set h' (by decide))), (fun h' => h.f5 (listed_set h' (by decide))), (fun h' => h.f6 (listed_set h' (by decide))), (fun h' => (let ⟨q, e, hq, hh⟩ := h.f7 (listed_set h' (by decide)); ⟨q, e, hq, fun hn => hh (by rwa [listed_same (by decide)] at hn)⟩)), (fun h' => h.f8 (listed_set h' (by decide))), (fun h' => h.f9 (listed_set h' (by decide))), (fun h' => by rw [listed_same (by decide)] at h' ⊢; exact h.da h'), (by rw [listed_same (by decide)]; exact h.dr), h.gr, h.g0⟩
theorem DKL.up1 (h : DKL w1 g rr DV m l w s8 s9 s33 s34 s35 s36 s37 s38 s39) (hv : v = .pointer (some ⟨g, 0, none⟩)) : DKL w1 g rr DV m (l.setIfInBounds 1 true) w s8 s9 s33 s34 v s36 s37 s38 s39 := by
  exact ⟨(fun h' => h.f0 (listed_set h' (by decide))), (fun _ => hv), (fun h' => h.f2 (listed_set h' (by decide))), (fun h' => h.f3 (listed_set h' (by decide))), (fun h' => h.f4 (listed_set h' (by decide))), (fun h' => h.f5 (listed_set h' (by decide))), (fun h' => h.f6 (listed_set h' (by decide))), (fun h' => (let ⟨q, e, hq, hh⟩ := h.f7 (listed_set h' (by decide)); ⟨q, e, hq, fun hn => hh (by rwa [listed_same (by decide)] at hn)⟩)), (fun h' => h.f8 (listed_set h' (by decide))), (fun h' => h.f9 (listed_set h' (by decide))), (fun h' => by rw [listed_same (by decide)] at h' ⊢; exact h.da h'), (by rw [listed_same (by decide)]; exact h.dr), h.gr, h.g0⟩
theorem DKL.up4 (h : DKL w1 g rr DV m l w s8 s9 s33 s34 s35 s36 s37 s38 s39) (hv : ∃ x b d', v = .tuple #[x, .bool b] ∧ WDk w (w1.heap.size) x d' ∧ SmN m d') : DKL w1 g rr DV m (l.setIfInBounds 4 true) w s8 s9 v s34 s35 s36 s37 s38 s39 := by
  exact ⟨(fun h' => h.f0 (listed_set h' (by decide))), (fun h' => h.f1 (listed_set h' (by decide))), (fun h' => h.f2 (listed_set h' (by decide))), (fun h' => h.f3 (listed_set h' (by decide))), (fun _ => hv), (fun h' => h.f5 (listed_set h' (by decide))), (fun h' => h.f6 (listed_set h' (by decide))), (fun h' => (let ⟨q, e, hq, hh⟩ := h.f7 (listed_set h' (by decide)); ⟨q, e, hq, fun hn => hh (by rwa [listed_same (by decide)] at hn)⟩)), (fun h' => h.f8 (listed_set h' (by decide))), (fun h' => h.f9 (listed_set h' (by decide))), (fun h' => by rw [listed_same (by decide)] at h' ⊢; exact h.da h'), (by rw [listed_same (by decide)]; exact h.dr), h.gr, h.g0⟩
theorem DKL.up5 (h : DKL w1 g rr DV m l w s8 s9 s33 s34 s35 s36 s37 s38 s39) (hv : ∃ d', WDk w (w1.heap.size) v d' ∧ SmN m d') : DKL w1 g rr DV m (l.setIfInBounds 5 true) w s8 s9 s33 s34 s35 s36 s37 v s39 := by
  exact ⟨(fun h' => h.f0 (listed_set h' (by decide))), (fun h' => h.f1 (listed_set h' (by decide))), (fun h' => h.f2 (listed_set h' (by decide))), (fun h' => h.f3 (listed_set h' (by decide))), (fun h' => h.f4 (listed_set h' (by decide))), (fun _ => hv), (fun h' => h.f6 (listed_set h' (by decide))), (fun h' => (let ⟨q, e, hq, hh⟩ := h.f7 (listed_set h' (by decide)); ⟨q, e, hq, fun hn => hh (by rwa [listed_same (by decide)] at hn)⟩)), (fun h' => h.f8 (listed_set h' (by decide))), (fun h' => h.f9 (listed_set h' (by decide))), (fun h' => by rw [listed_same (by decide)] at h' ⊢; exact h.da h'), (by rw [listed_same (by decide)]; exact h.dr), h.gr, h.g0⟩
theorem DKL.up6 (h : DKL w1 g rr DV m l w s8 s9 s33 s34 s35 s36 s37 s38 s39) (hv : ∃ b, v = .bool b) : DKL w1 g rr DV m (l.setIfInBounds 6 true) w s8 s9 s33 s34 s35 s36 s37 s38 v := by
  exact ⟨(fun h' => h.f0 (listed_set h' (by decide))), (fun h' => h.f1 (listed_set h' (by decide))), (fun h' => h.f2 (listed_set h' (by decide))), (fun h' => h.f3 (listed_set h' (by decide))), (fun h' => h.f4 (listed_set h' (by decide))), (fun h' => h.f5 (listed_set h' (by decide))), (fun _ => hv), (fun h' => (let ⟨q, e, hq, hh⟩ := h.f7 (listed_set h' (by decide)); ⟨q, e, hq, fun hn => hh (by rwa [listed_same (by decide)] at hn)⟩)), (fun h' => h.f8 (listed_set h' (by decide))), (fun h' => h.f9 (listed_set h' (by decide))), (fun h' => by rw [listed_same (by decide)] at h' ⊢; exact h.da h'), (by rw [listed_same (by decide)]; exact h.dr), h.gr, h.g0⟩
theorem DKL.up9 (h : DKL w1 g rr DV m l w s8 s9 s33 s34 s35 s36 s37 s38 s39) (hv : ∃ b, v = .bool b) : DKL w1 g rr DV m (l.setIfInBounds 9 true) w s8 v s33 s34 s35 s36 s37 s38 s39 := by
  exact ⟨(fun h' => h.f0 (listed_set h' (by decide))), (fun h' => h.f1 (listed_set h' (by decide))), (fun h' => h.f2 (listed_set h' (by decide))), (fun h' => h.f3 (listed_set h' (by decide))), (fun h' => h.f4 (listed_set h' (by decide))), (fun h' => h.f5 (listed_set h' (by decide))), (fun h' => h.f6 (listed_set h' (by decide))), (fun h' => (let ⟨q, e, hq, hh⟩ := h.f7 (listed_set h' (by decide)); ⟨q, e, hq, fun hn => hh (by rwa [listed_same (by decide)] at hn)⟩)), (fun h' => h.f8 (listed_set h' (by decide))), (fun _ => hv), (fun h' => by rw [listed_same (by decide)] at h' ⊢; exact h.da h'), (by rw [listed_same (by decide)]; exact h.dr), h.gr, h.g0⟩
theorem DKL.up2 (h : DKL w1 g rr DV m l w s8 s9 s33 s34 s35 s36 s37 s38 s39) (hsz : l.size = 10) (hv : ∃ kd n : Int, v = .agg #[.int .i64 kd, .int .i64 n]) (hg : w.grownBy w' (some g)) (hr : ∃ r, Rd w' g r ∧ r ≤ rr + 20) : DKL w1 g rr DV m (l.setIfInBounds 2 true) w' s8 s9 s33 s34 s35 v s37 s38 s39 := by
  exact ⟨(fun h' => h.f0 (listed_set h' (by decide))), (fun h' => h.f1 (listed_set h' (by decide))), (fun _ => hv), (fun h' => (let ⟨v, b, d', e, ho, hs⟩ := h.f3 (listed_set h' (by decide)); ⟨v, b, d', e, (ho).keptG hg h.g0, hs⟩)), (fun h' => (let ⟨v, b, d', e, ho, hs⟩ := h.f4 (listed_set h' (by decide)); ⟨v, b, d', e, (ho).keptG hg h.g0, hs⟩)), (fun h' => (let ⟨d', ho, hs⟩ := h.f5 (listed_set h' (by decide)); ⟨d', (ho).keptG hg h.g0, hs⟩)), (fun h' => h.f6 (listed_set h' (by decide))), (fun h' => (let ⟨q, e, hq, hh⟩ := h.f7 (listed_set h' (by decide)); ⟨q, e, hq, fun hn => let b := hh (by rwa [listed_same (by decide)] at hn); (b).grown hg (by simp; have := h.g0; omega)⟩)), (fun h' => (let ⟨q, u0, u1, u2, u3, u4, d', e, hq, b, ho, hs⟩ := h.f8 (listed_set h' (by decide)); ⟨q, u0, u1, u2, u3, u4, d', e, hq, (b).grown hg (by simp; have := h.g0; omega), (ho).keptG hg h.g0, hs⟩)), (fun h' => h.f9 (listed_set h' (by decide))), (fun h' => by rw [listed_same (by decide)] at h' ⊢; exact h.da h'), (by rw [listed_at (by omega), if_pos rfl]; exact hr), h.gr.trans hg, h.g0⟩
theorem DKL.up3 (h : DKL w1 g rr DV m l w s8 s9 s33 s34 s35 s36 s37 s38 s39) (hv : ∃ x b d', v = .tuple #[x, .bool b] ∧ WDk w' (w1.heap.size) x d' ∧ SmN m d') (hb : Below w.heap.size w w') : DKL w1 g rr DV m (l.setIfInBounds 3 true) w' s8 s9 s33 s34 s35 s36 v s38 s39 := by
  exact ⟨(fun h' => h.f0 (listed_set h' (by decide))), (fun h' => h.f1 (listed_set h' (by decide))), (fun h' => h.f2 (listed_set h' (by decide))), (fun _ => hv), (fun h' => (let ⟨v, b, d', e, ho, hs⟩ := h.f4 (listed_set h' (by decide)); ⟨v, b, d', e, (ho).below hb (Nat.le_refl _), hs⟩)), (fun h' => (let ⟨d', ho, hs⟩ := h.f5 (listed_set h' (by decide)); ⟨d', (ho).below hb (Nat.le_refl _), hs⟩)), (fun h' => h.f6 (listed_set h' (by decide))), (fun h' => (let ⟨q, e, hq, hh⟩ := h.f7 (listed_set h' (by decide)); ⟨q, e, hq, fun hn => let b := hh (by rwa [listed_same (by decide)] at hn); (b).below hb (b).lt⟩)), (fun h' => (let ⟨q, u0, u1, u2, u3, u4, d', e, hq, b, ho, hs⟩ := h.f8 (listed_set h' (by decide)); ⟨q, u0, u1, u2, u3, u4, d', e, hq, (b).below hb (b).lt, (ho).below hb (Nat.le_refl _), hs⟩)), (fun h' => h.f9 (listed_set h' (by decide))), (fun h' => by rw [listed_same (by decide)] at h' ⊢; exact h.da h'), (let ⟨r, hr, hq⟩ := h.dr; ⟨r, hr.below hb (Nat.le_refl _), by rw [listed_same (by decide)]; exact hq⟩), h.gr.trans (grown_of_below (some g) hb), h.g0⟩
theorem DKL.up7 (h : DKL w1 g rr DV m l w s8 s9 s33 s34 s35 s36 s37 s38 s39) (hsz : l.size = 10) (hun : l.getD 7 false = false)  : DKL w1 g rr DV m (l.setIfInBounds 7 true) (w.alloc (.cells #[.slice none 0 0, .slice none 0 0, .slice none 0 0, .int .i64 0, .slice none 0 0] 33)) (.pointer (some ⟨w.heap.size, 0, none⟩)) s9 s33 s34 s35 s36 s37 s38 s39 := by
  have hb := (Below.refl w.heap.size w).alloc (Nat.le_refl _) (.cells #[.slice none 0 0, .slice none 0 0, .slice none 0 0, .int .i64 0, .slice none 0 0] 33)
  exact ⟨(fun h' => h.f0 (listed_set h' (by decide))), (fun h' => h.f1 (listed_set h' (by decide))), (fun h' => h.f2 (listed_set h' (by decide))), (fun h' => (let ⟨v, b, d', e, ho, hs⟩ := h.f3 (listed_set h' (by decide)); ⟨v, b, d', e, (ho).below hb (Nat.le_refl _), hs⟩)), (fun h' => (let ⟨v, b, d', e, ho, hs⟩ := h.f4 (listed_set h' (by decide)); ⟨v, b, d', e, (ho).below hb (Nat.le_refl _), hs⟩)), (fun h' => (let ⟨d', ho, hs⟩ := h.f5 (listed_set h' (by decide)); ⟨d', (ho).below hb (Nat.le_refl _), hs⟩)), (fun h' => h.f6 (listed_set h' (by decide))), (fun _ => ⟨w.heap.size, rfl, h.gr.size, fun _ => Blk.new _ _ _⟩), (fun h' => absurd (h.da (listed_set h' (by decide))) (by rw [hun]; simp)), (fun h' => h.f9 (listed_set h' (by decide))), (fun _ => listed_at (by omega)), (let ⟨r, hr, hq⟩ := h.dr; ⟨r, hr.below hb (Nat.le_refl _), by rw [listed_same (by decide)]; exact hq⟩), h.gr.trans (grown_of_below (some g) hb), h.g0⟩
theorem DKL.up8 (h : DKL w1 g rr DV m l w s8 s9 s33 s34 s35 s36 s37 s38 s39) (hsz : l.size = 10) {q : Nat} {u0 u1 u2 u3 u4 : Value} {d' : Dk} (hA : l.getD 7 false = true) (e8 : s8 = .pointer (some ⟨q, 0, none⟩)) (hq : w1.heap.size ≤ q) (hz : Blk w q 33 #[.slice none 0 0, .slice none 0 0, .slice none 0 0, .int .i64 0, .slice none 0 0]) (ho : WDk w (w1.heap.size) (.agg #[u0, u1, u2, u3, u4]) d') (hs : SmN m d') : DKL w1 g rr DV m (l.setIfInBounds 8 true) (((((w.setCell ⟨q, 0, none⟩ u0).setCell ⟨q, 1, none⟩ u1).setCell ⟨q, 2, none⟩ u2).setCell ⟨q, 3, none⟩ u3).setCell ⟨q, 4, none⟩ u4) s8 s9 s33 s34 s35 s36 s37 s38 s39 := by
  have HB : Blk (((((w.setCell ⟨q, 0, none⟩ u0).setCell ⟨q, 1, none⟩ u1).setCell ⟨q, 2, none⟩ u2).setCell ⟨q, 3, none⟩ u3).setCell ⟨q, 4, none⟩ u4) q 33 #[u0, u1, u2, u3, u4] := by
    have := ((((hz.set_ 0 u0).set_ 1 u1).set_ 2 u2).set_ 3 u3).set_ 4 u4
    simpa using this
  exact ⟨(fun h' => h.f0 (listed_set h' (by decide))), (fun h' => h.f1 (listed_set h' (by decide))), (fun h' => h.f2 (listed_set h' (by decide))), (fun h' => let ⟨v, b, d', e, ho, hs⟩ := h.f3 (listed_set h' (by decide)); ⟨v, b, d', e, own_wd5 ho hz, hs⟩), (fun h' => let ⟨v, b, d', e, ho, hs⟩ := h.f4 (listed_set h' (by decide)); ⟨v, b, d', e, own_wd5 ho hz, hs⟩), (fun h' => let ⟨d', ho, hs⟩ := h.f5 (listed_set h' (by decide)); ⟨d', own_wd5 ho hz, hs⟩), (fun h' => h.f6 (listed_set h' (by decide))), (fun h' => let ⟨q, e, hq, hh⟩ := h.f7 (listed_set h' (by decide)); ⟨q, e, hq, fun hn => by rw [listed_at (by omega)] at hn; cases hn⟩), (fun _ => ⟨q, u0, u1, u2, u3, u4, d', e8, hq, HB, own_wd5 ho hz, hs⟩), (fun h' => h.f9 (listed_set h' (by decide))), (fun _ => by rw [listed_same (by decide)]; exact hA), (let ⟨r, hr, hle⟩ := h.dr; ⟨r, (rd_set (rd_set (rd_set (rd_set (rd_set hr (by have := h.g0; omega) u0) (by have := h.g0; omega) u1) (by have := h.g0; omega) u2) (by have := h.g0; omega) u3) (by have := h.g0; omega) u4), by rw [listed_same (by decide)]; exact hle⟩), (grown_set (grown_set (grown_set (grown_set (grown_set h.gr hq u0) hq u1) hq u2) hq u3) hq u4), h.g0⟩
end

end Go.Proofs.YtmhgpbfogdoaeaaGreatDoor

/- DrawDk -/
namespace Go.Proofs.YtmhgpbfogdoaeaaGreatDoor
open Go.RowKit

set_option maxRecDepth 100000 in
set_option maxHeartbeats 16000000 in
theorem desk_any (g p : Nat) (n : Int) (w : World) (h : Rd w g p) (hp : p ≤ 100) (hn : 1 ≤ n) (hn' : n ≤ 1000) :
    Calls Tryz.prog 47 #[.pointer (some ⟨g, 0, none⟩), .int .i64 n] w (RetKDesk w g p) := by
  have hg0 := h.lt
  have hR := h.alloc' (.cells #[.slice none 0 0, .slice none 0 0, .slice none 0 0, .int .i64 0, .slice none 0 0] 33)
  have HX := Lib.hid (Blk.new w 33 #[.slice none 0 0, .slice none 0 0, .slice none 0 0, .int .i64 0, .slice none 0 0])
  have hgr := Lib.hid (grown_of_below (some g) ((Below.refl w.heap.size w).alloc (Nat.le_refl _) (.cells #[.slice none 0 0, .slice none 0 0, .slice none 0 0, .int .i64 0, .slice none 0 0] 33)))
  have hsW : (w.alloc (.cells #[.slice none 0 0, .slice none 0 0, .slice none 0 0, .int .i64 0, .slice none 0 0] 33)).heap.size = w.heap.size + 1 := by simp
  have HD := Lib.hid (drawn0_any g p _ hR (by omega))
  clear h hR
  go_enter Tryz.func47, Tryz.ntmps47
  go_upto_region 1 with (fail)
  generalize w.alloc (.cells #[.slice none 0 0, .slice none 0 0, .slice none 0 0, .int .i64 0, .slice none 0 0] 33) = W at *
  go_wp2_with (fail)
  refine HD.out.mono ?_
  rintro e w1 ⟨v, t, q, rfl, ho, hst, hr, hq, hg⟩
  have hgr1 := Lib.hid (hgr.out.trans hg)
  have HX1 := HX.out.grown hg (by simp; omega)
  have hlt := ho.l
  obtain ⟨A1, c1, A2, c2, A3, c3, rfl⟩ := hlt.shape
  clear HD hgr HX hg ho
  go_wp2_with (fail)
  refine (pick_any g q 5 _ hr (by omega) (by omega) (by omega)).mono ?_
  rintro e w2 ⟨k1, rfl, hk1, hr2, hg2, -⟩
  have hk1a := hk1.1
  have hk1b : k1 < 5 := by omega
  have hgr2 := Lib.hid (hgr1.out.trans hg2)
  have HX2 := HX1.grown hg2 (by simp; omega)
  have hlt2 := hlt.keptG hg2 (by omega)
  have e1 : IntKind.i64.wrap (1 + k1) = 1 + k1 := IntWalk.i64_in _ (by omega)
  have KN := Lib.hid (specDeskNewW_any _ t (1 + k1) w2 hlt2.tng (hst.fine (by omega)) (by omega))
  have hgz2 : w.heap.size + 1 ≤ w2.heap.size := by have := hgr2.out.size; have := HX2.lt; omega
  obtain ⟨hsd, hsl⟩ := new_small hst (n := 1 + k1) (by omega)
  replace hsd := Lib.hid hsd
  replace hsl := Lib.hid hsl
  clear hgr1 HX1 hlt hr hk1 hg2 hlt2 hst
  generalize dkNew t (1 + k1) = d at *
  generalize namedB t (1 + k1) = nb at *
  replace hr2 := Lib.hid hr2
  replace HX2 := Lib.hid HX2
  go_wp2_with (fail)
  refine KN.out.mono ?_
  rintro e w3 ⟨v3, rfl, -, hw3, hb3⟩
  have hw3 := (hw3 (by omega)).mono (B' := w.heap.size) (by omega)
  obtain ⟨X1, k1', X2, k2', X3, k3', X5, k5', rfl⟩ := hw3.shape
  have S := Lib.hid (KSt.start (hr2.out.below hb3 (Nat.le_refl _)) (HX2.out.below hb3 HX2.out.lt) hw3 hsd.out (hgr2.out.trans (grown_of_below (some g) hb3)) hg0)
  clear KN hw3 hb3 hr2 HX2 hsd hgr2 e1
  go_upto_region 2 with (fail)
  generalize w3.alloc (.cells #[.slice X1 d.t.us.length k1', .slice X2 d.t.bs.length k2', .slice X3 d.t.ns.length k3', .int .i64 d.now, .slice X5 d.past.length k5'] 33) = W3 at *
  generalize w3.heap.size = b at *
  have hb0 := S.out.b0
  obtain ⟨⟨z0, z1, z2, z3, z4⟩, -⟩ := blk5 S.out.box
  have KO := Lib.hid (specDeskOk_any _ d W3 S.out.own.dsk S.out.sm.fine)
  generalize dkOk d = ok at *
  go_wp2_with (fail)
  refine KO.out.mono ?_
  rintro e w4 ⟨rfl, b4⟩
  replace S := Lib.hid (S.out.below b4)
  clear b4 z0 z1 z2 z3 z4 KO
  go_upto_if 21 with (fail)
  go_cut [6] (fun s6 wx => KAt w g (p + 21) 0 wx b)
  case first =>
    cases ok
    · go_wp2_with (fail)
      refine (tongues_any 0 w4).mono ?_
      rintro e w5 ⟨v5, t5, rfl, ho5, hs5, -, hb5⟩
      replace S := Lib.hid (S.out.below hb5)
      obtain ⟨A1, c1, A2, c2, A3, c3, rfl⟩ := ho5.l.shape
      have KN := Lib.hid (specDeskNewW_any _ t5 7 w5 ho5.l.tng (hs5.fine (by omega)) (by omega))
      have hsd := Lib.hid (new_small (n := 7) (hs5.mono (m' := 40) (by omega)) (by omega)).1
      have hsl := Lib.hid (new_small (n := 7) (hs5.mono (m' := 40) (by omega)) (by omega)).2
      generalize dkNew t5 7 = d5 at *
      generalize namedB t5 7 = nb5 at *
      clear ho5 hs5 hb5
      go_wp2_with (fail)
      refine KN.out.mono ?_
      rintro e w6 ⟨v6, rfl, -, hw6, hb6⟩
      have hz6 := S.out.gr.size
      have hw7 := (hw6 (by omega)).mono (B' := w.heap.size) hz6
      obtain ⟨Y1, l1, Y2, l2, Y3, l3, Y5, l5, rfl⟩ := hw7.shape
      replace S := Lib.hid (S.out.below hb6)
      obtain ⟨⟨z0, z1, z2, z3, z4⟩, ⟨f0, f1, f2, f3, f4⟩⟩ := blk5 S.out.box
      have S2 := Lib.hid (S.out.put hw7 hsd.out)
      clear hw6 hw7 hb6 KN S hsd
      go_wp2
      go_meet
      exact ⟨_, _, _, _, _, _, _, _, _, _, S2.out, by rw [hsl.out]; omega, by omega⟩
    · go_wp2
      go_meet
      exact ⟨_, _, _, _, _, _, _, _, _, _, S.out, by rw [hsl.out]; omega, by omega⟩
  case rest =>
    clear S
    obtain ⟨d, X1, k1, X2, k2, X3, k3, X5, k5, q, S, hsl, hq⟩ := hcut
    replace S := Lib.hid S
    replace hsl := Lib.hid hsl
    go_wp2_with (fail)
    refine (pick_any g q 6 _ S.out.rd (by omega) (by omega) (by omega)).mono ?_
    rintro e w5 ⟨k0, rfl, hk0, hr5, hg5, -⟩
    obtain ⟨K, rfl⟩ : ∃ K : Nat, k0 = (K : Int) := ⟨k0.toNat, by omega⟩
    replace S := Lib.hid (S.out.pick hr5 hg5)
    have hK : K ≤ 5 := by omega
    clear hk0 hr5 hg5
    go_wp2
    go_loopw [7, 8, 9] (fun s7 s8 s9 wr => ∃ (k : Nat) (d : Dk) (X1 : Option Addr) (k1 : Nat) (X2 : Option Addr) (k2 : Nat) (X3 : Option Addr) (k3 : Nat) (X5 : Option Addr) (k5 q : Nat), s7 = .int .i64 (k : Int) ∧ KSt w g wr b d #[.slice X1 d.t.us.length k1, .slice X2 d.t.bs.length k2, .slice X3 d.t.ns.length k3, .int .i64 d.now, .slice X5 d.past.length k5] q ∧ d.past.length + k ≤ 5 ∧ q + 20 * k ≤ p + 122) (fun s7 _ _ _ => (intOf s7).toNat)
    case atStart => exact ⟨_, _, _, _, _, _, _, _, _, _, _, rfl, S.out, by have := hsl.out; omega, by omega⟩
    case round =>
      clear S hsl hq
      obtain ⟨k, d, X1, k1, X2, k2, X3, k3, X5, k5, q, rfl, S, hsl, hq⟩ := hrel
      replace S := Lib.hid S
      replace hsl := Lib.hid hsl
      by_cases hk : k = 0
      · subst hk
        go_wp2_with (fail)
        refine (odd_any g q n _ S.out.rd (by omega) hn (by omega)).mono ?_
        rintro e V1 ⟨tb, q1, rfl, hq1, hr1, hg1, -⟩
        replace S := Lib.hid (S.out.pick hr1 hg1)
        clear hr1 hg1
        cases tb
        · obtain ⟨⟨x0, x1, x2, x3, x4⟩, -⟩ := blk5 S.out.box
          obtain ⟨⟨z0, z1, z2, z3, z4⟩, ⟨f0, f1, f2, f3, f4⟩⟩ := blk5 S.out.res
          have HF := fun u0 u1 u2 u3 u4 => S.out.finish (p := p) (u0 := u0) (u1 := u1) (u2 := u2) (u3 := u3) (u4 := u4) (by omega)
          replace HF := Lib.hid HF
          clear S
          go_wp2
          refine bodyPost_ret (v := .agg #[.slice X1 d.t.us.length k1, .slice X2 d.t.bs.length k2, .slice X3 d.t.ns.length k3, .int .i64 d.now, .slice X5 d.past.length k5]) (by simp [results, Tryz.results47, go_sem, z0, z1, z2, z3, z4]) rfl ?_
          exact HF.out _ _ _ _ _
        · go_wp2_with (fail)
          refine (pick_any g q1 3 _ S.out.rd (by omega) (by omega) (by omega)).mono ?_
          rintro e V2 ⟨k9, rfl, hk9, hr9, hg9, -⟩
          replace S := Lib.hid (S.out.pick hr9 hg9)
          clear hr9 hg9
          by_cases h90 : k9 = 0
          · subst h90
            have hbe : ((0 : Int) == 0) = true := rfl
            obtain ⟨⟨x0, x1, x2, x3, x4⟩, ⟨f0, f1, f2, f3, f4⟩⟩ := blk5 S.out.box
            replace S := Lib.hid S.out.now0
            go_upto_region 17 with (fail)
            generalize V2.setCell ⟨b, 3, none⟩ (.int .i64 0) = V3 at *
            clear x0 x1 x2 x3 x4 f0 f1 f2 f3 f4
            obtain ⟨⟨x0, x1, x2, x3, x4⟩, -⟩ := blk5 S.out.box
            obtain ⟨⟨z0, z1, z2, z3, z4⟩, ⟨f0, f1, f2, f3, f4⟩⟩ := blk5 S.out.res
            have HF := fun u0 u1 u2 u3 u4 => S.out.finish (p := p) (u0 := u0) (u1 := u1) (u2 := u2) (u3 := u3) (u4 := u4) (by omega)
            replace HF := Lib.hid HF
            clear S
            go_wp2
            refine bodyPost_ret (v := .agg #[.slice X1 d.t.us.length k1, .slice X2 d.t.bs.length k2, .slice X3 d.t.ns.length k3, .int .i64 0, .slice X5 d.past.length k5]) (by simp [results, Tryz.results47, go_sem, z0, z1, z2, z3, z4]) rfl ?_
            exact HF.out _ _ _ _ _
          · have hbe0 : (k9 == 0) = false := by simpa using h90
            by_cases h91 : k9 = 1
            · subst h91
              have hbe1 : ((1 : Int) == 1) = true := rfl
              obtain ⟨ii0, hii, hzi0, hzi1, hzi2⟩ := info_parts int_info0
              obtain ⟨⟨x0, x1, x2, x3, x4⟩, -⟩ := blk5 S.out.box
              replace S := Lib.hid (S.out.lit (.cells #[.int .i64 0] 3))
              have hL : Blk (V2.alloc (.cells #[.int .i64 0] 3)) V2.heap.size 3 #[.int .i64 0] := Blk.new _ _ _
              replace hL := Lib.hid (Src.one hL rfl)
              have kk1 := Lib.hid (show d.past.length + 1 ≤ maxLen by have := hsl.out; unfold maxLen; omega)
              have kk2 := Lib.hid (show (d.past.length + 1) * 8 ≤ 140737488355328 by have := hsl.out; omega)
              have kk3 := Lib.hid (show w.heap.size ≤ (V2.alloc (.cells #[.int .i64 0] 3)).heap.size from S.out.gr.size)
              go_wp2_with (at_builtin; refine wpList_app _ rfl (.tmp 54) (.tmp 55) _ rfl w.heap.size 3 ii0 _ 8 Tryz.underlying29 hii hzi0 hzi1 hzi2 rfl (.slice X5 d.past.length k5) d.past.length (d.past.map (Value.int .i64)) rfl S.out.past (some ⟨V2.heap.size, 0, none⟩) 1 1 _ rfl hL.out kk1.out kk2.out kk3.out ?_; intro v6 w6 ho6 hg6 hat6; obtain ⟨Y5, j5, rfl, -, -⟩ := World.ownsRow.form ho6 (by omega); obtain ⟨hB6, -⟩ := S.out.mid hg6; obtain ⟨⟨x0', x1', x2', x3', x4'⟩, ⟨f0, f1, f2, f3, f4⟩⟩ := blk5 hB6; replace S := Lib.hid (S.out.snoc ho6 hg6 hat6 (by have := hsl.out; omega)); replace hB6 := Lib.hid hB6; clear hg6 ho6 hat6; refine Hid.out ?_)
              refine Lib.hid ?_
              go_upto_region 17 with (fail)
              generalize w6.setCell ⟨b, 4, none⟩ (.slice (some ⟨Y5, 0, none⟩) (d.past.length + 1) j5) = V4 at *
              clear x0 x1 x2 x3 x4 x0' x1' x2' x3' x4' f0 f1 f2 f3 f4 hB6 hL
              obtain ⟨⟨x0, x1, x2, x3, x4⟩, -⟩ := blk5 S.out.box
              obtain ⟨⟨z0, z1, z2, z3, z4⟩, ⟨f0, f1, f2, f3, f4⟩⟩ := blk5 S.out.res
              have HF := fun u0 u1 u2 u3 u4 => S.out.finish (p := p) (u0 := u0) (u1 := u1) (u2 := u2) (u3 := u3) (u4 := u4) (by omega)
              replace HF := Lib.hid HF
              clear S
              go_wp2
              refine bodyPost_ret (v := .agg #[.slice X1 d.t.us.length k1, .slice X2 d.t.bs.length k2, .slice X3 d.t.ns.length k3, .int .i64 d.now, .slice (some ⟨Y5, 0, none⟩) (d.past.length + 1) j5]) (by simp [results, Tryz.results47, go_sem, z0, z1, z2, z3, z4]) rfl ?_
              exact HF.out _ _ _ _ _
            · have hbe1 : (k9 == 1) = false := by simpa using h91
              obtain ⟨⟨z0, z1, z2, z3, z4⟩, ⟨f0, f1, f2, f3, f4⟩⟩ := blk5 S.out.res
              have HF := fun u0 u1 u2 u3 u4 => S.out.finish0 (p := p) (u0 := u0) (u1 := u1) (u2 := u2) (u3 := u3) (u4 := u4) (by omega)
              replace HF := Lib.hid HF
              clear S
              go_wp2
              refine bodyPost_ret (v := .agg #[.slice none 0 0, .slice none 0 0, .slice none 0 0, .int .i64 0, .slice none 0 0]) (by simp [results, Tryz.results47, go_sem, z0, z1, z2, z3, z4]) rfl ?_
              exact HF.out _ _ _ _ _
      · have hk' : 0 < k := by omega
        obtain ⟨k', hk1⟩ : ∃ k' : Nat, k = k' + 1 := ⟨k - 1, by omega⟩
        have e7 : IntKind.i64.wrap ((k : Int) - 1) = (k' : Int) := by rw [IntWalk.i64_in _ (by omega)]; omega
        replace hk1 := Lib.hid hk1
        go_upto_region 7 with (fail)
        replace S := Lib.hid (S.out.below (Below.refl _ _).drew)
        have hgw : g < wr.heap.size := by have := S.out.rd.lt; simpa using this
        refine wp_region_any (by kernel_rfl) ?_
        refine wpAny_inv (Inv := fun l a w' => ∃ (s8 s9 s33 s34 s35 s36 s37 s38 s39 : Value), a = ⟨#[.pointer (some ⟨g, 0, none⟩), .int .i64 n, undef, undef, .pointer (some ⟨w.heap.size, 0, none⟩), .pointer (some ⟨b, 0, none⟩), u6, .int .i64 (k : Int), s8, s9, u10, u11, u12, u13, u14, u15, u16, u17, u18, u19, u20, u21, u22, u23, u24, u25, u26, .pointer (some ⟨g, 0, none⟩), .int .i64 (K : Int), .int .i64 (k : Int), .bool true, u31, u32, s33, s34, s35, s36, s37, s38, s39, u40, u41, u42, u43, u44, u45, undef, u47, undef, u49, u50, undef, u52, u53, u54, u55, u56, u57, u58], []⟩ ∧ DKL wr.drew g q (.agg #[.slice X1 d.t.us.length k1, .slice X2 d.t.bs.length k2, .slice X3 d.t.ns.length k3, .int .i64 d.now, .slice X5 d.past.length k5]) (d.past.length + 1) l w' s8 s9 s33 s34 s35 s36 s37 s38 s39) (ord_spec (by kernel_rfl)) ?_ ?_ _ _ _ _ rfl (by decide) ?_
        · rintro l a w' ⟨s8, s9, s33, s34, s35, s36, s37, s38, s39, rfl, hF⟩ hsz hl
          have hl' : ∀ j, j < 10 → l.getD j false = true := hl
          obtain ⟨q8, u0, u1, u2, u3, u4, d', e8, hq8, hbx, how, hsn⟩ := hF.f8 (hl' 8 (by decide))
          subst e8
          obtain ⟨bb, e9⟩ := hF.f9 (hl' 9 (by decide))
          subst e9
          obtain ⟨r, hr, hrq⟩ := hF.dr
          have hrq : r ≤ q + 20 := by split at hrq <;> omega
          have hwsz : w.heap.size ≤ wr.drew.heap.size := S.out.gr.size
          replace S := Lib.hid (S.out.pick hr hF.gr)
          obtain ⟨Y1, j1, Y2, j2, Y3, j3, Y5, j5, e1, -⟩ := how.dsk.ex
          injection e1 with e1
          have e1 : #[u0, u1, u2, u3, u4] = (_ : Array Value) := e1
          injection e1 with e1
          simp only [List.cons.injEq, and_true] at e1
          obtain ⟨rfl, rfl, rfl, rfl, rfl⟩ := e1
          have how2 := how.mono (B' := w.heap.size) (hwsz)
          have S2 := Lib.hid (S.out.put how2 hsn.s)
          have hln := hsn.l
          obtain ⟨⟨r0, r1, r2, r3, r4⟩, -⟩ := blk5 hbx
          obtain ⟨⟨x0, x1, x2, x3, x4⟩, ⟨y0, y1, y2, y3, y4⟩⟩ := blk5 S.out.box
          clear hF hl hl' hr how how2 hbx hsn
          replace hln := Lib.hid hln
          cases bb
          · go_wp2
            go_roundw
            case rel => exact ⟨k', _, _, _, _, _, _, _, _, _, _, by go_num, S.out, by have := hsl.out; have := hk1.out; omega, by have := hk1.out; omega⟩
            case measure => have := hk1.out; simp [intOf]; omega
          · go_wp2
            go_roundw
            case rel => exact ⟨k', _, _, _, _, _, _, _, _, _, _, by go_num, S2.out, by have := hsl.out; have := hln.out; have := hk1.out; omega, by have := hk1.out; omega⟩
            case measure => have := hk1.out; simp [intOf]; omega
        · rintro l a w' ⟨s8, s9, s33, s34, s35, s36, s37, s38, s39, rfl, hF⟩ hsz i o hlt ho hun hall
          have hlt' : i < 10 := hlt
          refine wpOp_step ho (fun K' hK => ?_)
          replace hK := Lib.hid hK
          obtain rfl | rfl | rfl | rfl | rfl | rfl | rfl | rfl | rfl | rfl : i = 0 ∨ i = 1 ∨ i = 2 ∨ i = 3 ∨ i = 4 ∨ i = 5 ∨ i = 6 ∨ i = 7 ∨ i = 8 ∨ i = 9 := by omega
          · simp only [List.getElem?_toArray, List.getElem?_cons_zero, Option.some.injEq] at ho
            subst ho
            obtain ⟨r, hr', hq'⟩ := hF.dr
            have S2 := S.out.pick hr' hF.gr
            obtain ⟨x0, x1, x2, x3, x4⟩ := (blk5 S2.box).1
            clear S2 hr' hq'
            replace hF := Lib.hid hF
            clear hall
            go_simp
            refine hK.out _ _ ?_
            exact ⟨_, _, _, _, _, _, _, _, _, rfl, hF.out.up0 rfl⟩
          · simp only [List.getElem?_toArray, List.getElem?_cons_succ, List.getElem?_cons_zero, Option.some.injEq] at ho
            subst ho
            replace hF := Lib.hid hF
            clear hall
            go_simp
            refine hK.out _ _ ?_
            exact ⟨_, _, _, _, _, _, _, _, _, rfl, hF.out.up1 rfl⟩
          · simp only [List.getElem?_toArray, List.getElem?_cons_succ, List.getElem?_cons_zero, Option.some.injEq] at ho
            subst ho
            have e1 := hF.f1 (hall ⟨1, Ground.data⟩ (by simp) rfl)
            subst e1
            obtain ⟨r, hr', hq'⟩ := hF.dr
            rw [hun, if_neg (by decide)] at hq'
            replace hF := Lib.hid hF
            clear hall
            go_simp
            go_at_call 99
            refine (deed_any g r _ hr' (by omega)).mono ?_
            rintro e V ⟨kd, m, r2, rfl, hkd, hm, hr2, hq2, hg⟩
            go_simp
            refine hK.out _ _ ?_
            exact ⟨_, _, _, _, _, _, _, _, _, rfl, hF.out.up2 hsz ⟨kd, m, rfl⟩ hg ⟨r2, hr2, by omega⟩⟩
          · simp only [List.getElem?_toArray, List.getElem?_cons_succ, List.getElem?_cons_zero, Option.some.injEq] at ho
            subst ho
            have e1 := hF.f0 (hall ⟨0, Ground.data⟩ (by simp) rfl)
            subst e1
            obtain ⟨kd, m, e2⟩ := hF.f2 (hall ⟨2, Ground.data⟩ (by simp) rfl)
            subst e2
            obtain ⟨r, hr', hq'⟩ := hF.dr
            have S2 := S.out.pick hr' hF.gr
            have hgs := hF.gr.size
            have KK := Lib.hid (specDeskDo_any _ d ⟨kd, m⟩ w' S2.own.dsk S2.sm.fine)
            have hsm := Lib.hid S2.sm
            clear S2 hr' hq'
            replace hF := Lib.hid hF
            clear hall
            go_simp
            go_at_call 63
            refine KK.out.mono ?_
            rintro e V ⟨v, rfl, -, ho', hb'⟩
            have h7 : d.past.length ≤ 7 := by have := hsl.out; omega
            go_simp
            refine hK.out _ _ ?_
            exact ⟨_, _, _, _, _, _, _, _, _, rfl, hF.out.up3 ⟨_, _, _, rfl, (ho' h7).mono hgs, do_small hsm.out _, do_len _ _⟩ hb'⟩
          · simp only [List.getElem?_toArray, List.getElem?_cons_succ, List.getElem?_cons_zero, Option.some.injEq] at ho
            subst ho
            have e1 := hF.f3 (hall ⟨3, Ground.data⟩ (by simp) rfl)
            obtain ⟨x, b', d', e1, ho', hs'⟩ := e1
            subst e1
            replace ho' := Lib.hid ho'
            replace hF := Lib.hid hF
            clear hall
            go_simp
            refine hK.out _ _ ?_
            exact ⟨_, _, _, _, _, _, _, _, _, rfl, hF.out.up4 ⟨x, b', d', rfl, ho'.out, hs'⟩⟩
          · simp only [List.getElem?_toArray, List.getElem?_cons_succ, List.getElem?_cons_zero, Option.some.injEq] at ho
            subst ho
            obtain ⟨x, b', d', e1, ho', hs'⟩ := hF.f4 (hall ⟨4, Ground.data⟩ (by simp) rfl)
            subst e1
            replace ho' := Lib.hid ho'
            replace hF := Lib.hid hF
            clear hall
            go_simp
            refine hK.out _ _ ?_
            exact ⟨_, _, _, _, _, _, _, _, _, rfl, hF.out.up5 ⟨d', ho'.out, hs'⟩⟩
          · simp only [List.getElem?_toArray, List.getElem?_cons_succ, List.getElem?_cons_zero, Option.some.injEq] at ho
            subst ho
            obtain ⟨x, b', d', e1, -, -⟩ := hF.f4 (hall ⟨4, Ground.data⟩ (by simp) rfl)
            subst e1
            replace hF := Lib.hid hF
            clear hall
            go_simp
            refine hK.out _ _ ?_
            exact ⟨_, _, _, _, _, _, _, _, _, rfl, hF.out.up6 ⟨b', rfl⟩⟩
          · simp only [List.getElem?_toArray, List.getElem?_cons_succ, List.getElem?_cons_zero, Option.some.injEq] at ho
            subst ho
            replace hF := Lib.hid hF
            clear hall
            go_simp
            refine hK.out _ _ ?_
            exact ⟨_, _, _, _, _, _, _, _, _, rfl, hF.out.up7 hsz hun⟩
          · simp only [List.getElem?_toArray, List.getElem?_cons_succ, List.getElem?_cons_zero, Option.some.injEq] at ho
            subst ho
            obtain ⟨d', ho', hs'⟩ := hF.f5 (hall ⟨5, Ground.data⟩ (by simp) rfl)
            obtain ⟨Y1, j1, Y2, j2, Y3, j3, Y5, j5, e1, -⟩ := ho'.dsk.ex
            subst e1
            have hA := (hall ⟨7, Ground.data⟩ (by simp) rfl)
            obtain ⟨q8, e3, hq', hh⟩ := hF.f7 hA
            subst e3
            have hz := hh hun
            obtain ⟨⟨r0, r1, r2, r3, r4⟩, ⟨f0, f1, f2, f3, f4⟩⟩ := blk5 hz
            replace hz := Lib.hid hz
            replace ho' := Lib.hid ho'
            replace hs' := Lib.hid hs'
            replace hF := Lib.hid hF
            clear hall
            go_simp
            refine hK.out _ _ ?_
            exact ⟨_, _, _, _, _, _, _, _, _, rfl, hF.out.up8 hsz hA rfl hq' hz.out ho'.out hs'.out⟩
          · simp only [List.getElem?_toArray, List.getElem?_cons_succ, List.getElem?_cons_zero, Option.some.injEq] at ho
            subst ho
            obtain ⟨b', e1⟩ := hF.f6 (hall ⟨6, Ground.data⟩ (by simp) rfl)
            subst e1
            replace hF := Lib.hid hF
            clear hall
            go_simp
            refine hK.out _ _ ?_
            exact ⟨_, _, _, _, _, _, _, _, _, rfl, hF.out.up9 ⟨b', rfl⟩⟩
        · exact ⟨_, _, _, _, _, _, _, _, _, rfl, (fun h => by simp at h), (fun h => by simp at h), (fun h => by simp at h), (fun h => by simp at h), (fun h => by simp at h), (fun h => by simp at h), (fun h => by simp at h), (fun h => by simp at h), (fun h => by simp at h), (fun h => by simp at h), (fun h => by simp at h), ⟨q, S.out.rd, by simp⟩, World.grownBy.refl _ _, by simpa using hgw⟩
end Go.Proofs.YtmhgpbfogdoaeaaGreatDoor

/- DrawDs -/
namespace Go.Proofs.YtmhgpbfogdoaeaaGreatDoor
open Go.RowKit

section
variable {w a b w' : World} {B n z g q : Nat} {e : TypeId} {v : Value} {xs : List Value}
theorem ownD_kept (h : w.ownsRow B e z v n xs) (hg : w.grownBy w' (some g)) (hgB : g < B) : w'.ownsRow B e z v n xs := by
  refine h.kept hg ?_
  cases hv : v.ownBlock with
  | none => exact .inl rfl
  | some k =>
    refine .inr fun e => ?_
    have h1 := h.lt k hv
    cases e
    omega
theorem grownD_append (h : w.grownBy a (some g)) (ho : a.ownsRow w.heap.size e z v n xs) (hg : a.grownBy b v.ownBlock) : w.grownBy b (some g) :=
  ⟨hg.os.trans h.os, hg.tape.trans h.tape, hg.output.trans h.output, Nat.le_trans h.size hg.size, fun k hk hne => (hg.block k (Nat.lt_of_lt_of_le hk h.size) (fun e => by have := (ho.lt k e.symm).1; omega)).trans (h.block k hk hne)⟩
theorem rdD_append (hlt : g < w.heap.size) (hr : Rd a g q) (ho : a.ownsRow w.heap.size e z v n xs) (hg : a.grownBy b v.ownBlock) : Rd b g q := by
  obtain ⟨A, m, c, ys, hb, hi, hm, hy, ha⟩ := hr.ex
  have hne : ∀ k, k < w.heap.size → some k ≠ v.ownBlock := fun k hk e => by have := (ho.lt k e.symm).1; omega
  exact ⟨A, m, c, ys, hb.grown hg (hne g hlt), hi.grown hg (fun h0 b' o e => hne b' (by have := ha h0 b' o e; omega)), hm, hy, ha⟩
end
theorem cellD_two (w : World) (a b : Value) (t : TypeId) : ∀ j u, [a, b][j]? = some u → (w.alloc (.cells #[a, b] t)).cell? ((⟨w.heap.size, 0, none⟩ : Addr).add j) = some u := by
  intro j u hj
  match j, hj with
  | 0, hj => simp at hj; subst hj; simp [Addr.add]
  | 1, hj => simp at hj; subst hj; simp [Addr.add]
  | j + 2, hj => simp at hj
/-- Deeds as they are drawn. -/
def DrawnDd (a : Dd) : Prop := (0 ≤ a.kind ∧ a.kind ≤ 9) ∧ (-1 ≤ a.n ∧ a.n ≤ 1000000)
def RetDeeds (w : World) (g p : Nat) (e : Ending) (w' : World) : Prop := ∃ v qs r, e = .returned v ∧ OwnDds w' w.heap.size v qs ∧ qs.length ≤ 5 ∧ (∀ a ∈ qs, DrawnDd a) ∧ Rd w' g r ∧ r ≤ p + 120 ∧ w.grownBy w' (some g)

set_option maxRecDepth 100000 in
set_option maxHeartbeats 4000000 in
theorem deeds_any (g p : Nat) (w : World) (h : Rd w g p) (hp : p ≤ 40000) :
    Calls Tryz.prog 49 #[.pointer (some ⟨g, 0, none⟩)] w (RetDeeds w g p) := by
  obtain ⟨i0, hi, hz0, hz1, hz2⟩ := info_parts dd_info
  have hg0 := h.lt
  have hR := Lib.hid (h.alloc' (.cells #[] 41))
  have hrow0 : (w.alloc (.cells #[] 41)).ownsRow w.heap.size 41 2 (.slice (some ⟨w.heap.size, 0, none⟩) 0 0) 0 [] := World.ownsRow_made w #[] 0 (Nat.le_refl _) (by unfold maxLen; omega) rfl
  have hgr0 := Lib.hid (grown_of_below (some g) ((Below.refl w.heap.size w).alloc (Nat.le_refl _) (.cells #[] 41)))
  have hO : Hid (OwnDds (w.alloc (.cells #[] 41)) w.heap.size (.slice (some ⟨w.heap.size, 0, none⟩) 0 0) []) := hrow0
  clear h hrow0
  go_enter Tryz.func49, Tryz.ntmps49
  go_upto_region 2 with (fail)
  generalize w.alloc (.cells #[] 41) = W at *
  go_wp2_with (fail)
  refine (pick_any g p 6 _ hR.out (by omega) (by omega) (by omega)).mono ?_
  rintro e w2 ⟨k0, rfl, hk0, hr2, hg2, -⟩
  obtain ⟨K, rfl⟩ : ∃ K : Nat, k0 = (K : Int) := ⟨k0.toNat, by omega⟩
  have hK : K ≤ 5 := by omega
  have hO2 : Hid (OwnDds w2 w.heap.size (.slice (some ⟨w.heap.size, 0, none⟩) 0 0) []) := Lib.hid (ownD_kept hO.out hg2 hg0)
  have hgr2 := Lib.hid (hgr0.out.trans hg2)
  replace hr2 := Lib.hid hr2
  clear hO hgr0 hR hg2 hk0
  go_wp2
  go_loopw [3, 4] (fun v s4 wr => ∃ (k r : Nat) (qs : List Dd), s4 = .int .i64 (k : Int) ∧ OwnDds wr w.heap.size v qs ∧ qs.length + k ≤ 5 ∧ (∀ a ∈ qs, DrawnDd a) ∧ Rd wr g r ∧ r + 20 * k ≤ p + 120 ∧ w.grownBy wr (some g)) (fun _ s4 _ => (intOf s4).toNat)
  case atStart => exact ⟨K, p + 1, [], rfl, hO2.out, by simpa using hK, by simp, hr2.out, by omega, hgr2.out⟩
  case round =>
    clear hO2 hr2 hgr2
    obtain ⟨k, r, qs, rfl, ho, hl, hds, hr, hrp, hg⟩ := hrel
    by_cases hk : k = 0
    · subst hk
      replace ho := Lib.hid ho
      replace hg := Lib.hid hg
      replace hr := Lib.hid hr
      replace hds := Lib.hid hds
      replace hl := Lib.hid hl
      go_wp2
      go_ret
      exact ⟨_, qs, r, rfl, ho.out, by have := hl.out; omega, hds.out, hr.out, by omega, hg.out⟩
    · have hk' : (0 : Int) < (k : Int) := by omega
      obtain ⟨A3, c3, rfl, -⟩ := ho.deeds
      replace ho := Lib.hid ho
      replace hg := Lib.hid hg
      replace hl := Lib.hid hl
      replace hds := Lib.hid hds
      go_wp2_with (fail)
      refine (deed_any g r _ hr (by omega)).mono ?_
      rintro e w3 ⟨kd, m, r3, rfl, hkd, hm, hr3, hrp3, hg3⟩
      have ho3 := ownD_kept ho.out hg3 hg0
      have hgr3 := hg.out.trans hg3
      have hlen : (A3 = none ∧ qs.length = 0) ∨ True := .inr trivial
      have hbs : w.heap.size ≤ w3.heap.size := hgr3.size
      obtain ⟨k', rfl⟩ : ∃ k', k = k' + 1 := ⟨k - 1, by omega⟩
      have hln5 : qs.length ≤ 4 := by have := hl.out; omega
      replace hln5 := Lib.hid hln5
      clear hlen ho hg hr hg3
      replace ho3 := Lib.hid ho3
      replace hgr3 := Lib.hid hgr3
      replace hr3 := Lib.hid hr3
      go_wp2_with (at_builtin; refine wpList_append_own _ rfl _ _ 24 rfl w.heap.size 41 i0 (.agg #[.int .i64 0, .int .i64 0]) 2 16 Tryz.underlying24 hi hz0 hz1 hz2 rfl (by decide) _ _ _ rfl (World.ownsRow.alloc ho3.out _) ⟨w3.heap.size, 0, none⟩ 1 1 [.int .i64 kd, .int .i64 m] rfl rfl (cellD_two _ _ _ _) (fun x hx => by simp at hx; rcases hx with rfl | rfl <;> rfl) (by have := hln5.out; unfold maxLen; omega) (by have := hln5.out; omega) (by simp; omega) ?_; intro v' w4 hown' hg4 _)
      have ho4 : OwnDds w4 w.heap.size v' (qs ++ [⟨kd, m⟩]) := OwnDds.snoc (a := ⟨kd, m⟩) hown'
      have hal := World.ownsRow.alloc ho3.out (.cells #[.int .i64 kd, .int .i64 m] 41)
      have hga := hgr3.out.trans (grown_of_below (some g) ((Below.refl w3.heap.size w3).alloc (Nat.le_refl _) (.cells #[.int .i64 kd, .int .i64 m] 41)))
      have hgr4 := grownD_append hga hal hg4
      have hr4 := rdD_append hg0 (hr3.out.alloc' _) hal hg4
      have hds4 : ∀ a ∈ qs ++ [⟨kd, m⟩], DrawnDd a := fun a ha => by
        rcases List.mem_append.1 ha with h1 | h1
        · exact hds.out a h1
        · rw [List.mem_singleton] at h1; subst h1; exact ⟨hkd, hm⟩
      replace ho4 := Lib.hid ho4
      replace hgr4 := Lib.hid hgr4
      replace hr4 := Lib.hid hr4
      replace hds4 := Lib.hid hds4
      have e7 : IntKind.i64.wrap (((k' + 1 : Nat) : Int) - 1) = (k' : Int) := by rw [IntWalk.i64_in _ (by omega)]; omega
      clear hown' hal hga hg4 ho3 hgr3 hr3
      go_wp2
      go_roundw
      case rel => exact ⟨k', r3, _, by go_num, ho4.out, by have := hl.out; rw [List.length_append]; simp; omega, hds4.out, hr4.out, by omega, hgr4.out⟩
      case measure => simp [intOf]
end Go.Proofs.YtmhgpbfogdoaeaaGreatDoor

/- DrawKr -/
namespace Go.Proofs.YtmhgpbfogdoaeaaGreatDoor
open Go.RowKit

/-- A desk and deeds are drawn. -/
def DrawnRun (w : World) (e : Ending) (w' : World) : Prop := ∃ v d A c qs, e = .returned (.tuple #[v, .slice A qs.length c]) ∧ MDk w' w.heap.size v d ∧ SmallD d ∧ DeedsAre w' A qs.length c qs ∧ qs.length ≤ 41 ∧ Below w.heap.size w w'
theorem made41 : madeCells (Value.agg #[.int .i64 0, .int .i64 0]).cells (41 * 2) = (ddCells (List.replicate 41 ⟨0, 0⟩)).toArray := by kernel_rfl
/-- What is known once the desk is drawn. -/
structure KRS (w : World) (g B q : Nat) (qb : Nat) (CS : Array Value) (v : Value) (d : Dk) (W : World) : Prop where
  rd : Rd W g q
  own : MDk W B v d
  kX : Blk W w.heap.size 33 #[.slice none 0 0, .slice none 0 0, .slice none 0 0, .int .i64 0, .slice none 0 0]
  kQ : Blk W qb 33 CS
  low : Below w.heap.size w W
  g0 : w.heap.size < g
  gq : g < qb
  gB : g < B
  wB : w.heap.size ≤ B
section
variable {w W W' : World} {g B q q' qb : Nat} {CS : Array Value} {v : Value} {d : Dk}
theorem KRS.below (h : KRS w g B q qb CS v d W) (hb : Below W.heap.size W W') : KRS w g B q qb CS v d W' :=
  ⟨h.rd.below hb (Nat.le_refl _), h.own.below hb (Nat.le_refl _), h.kX.below hb h.kX.lt, h.kQ.below hb h.kQ.lt, h.low.trans (hb.mono h.low.size), h.g0, h.gq, h.gB, h.wB⟩
end

/-- The same behind the deeds' draw. -/
structure KRB (w : World) (B qb : Nat) (CS : Array Value) (v : Value) (d : Dk) (v2 : Value) (qs : List Dd) (W : World) : Prop where
  own : MDk W B v d
  kX : Blk W w.heap.size 33 #[.slice none 0 0, .slice none 0 0, .slice none 0 0, .int .i64 0, .slice none 0 0]
  kQ : Blk W qb 33 CS
  low : Below w.heap.size w W
  dd : OwnDds W w.heap.size v2 qs

set_option maxRecDepth 100000 in
set_option maxHeartbeats 4000000 in
theorem drawDeskRun_any (A : Option Addr) (n c : Nat) (xs : List Int) (w : World) (h : Ints w .u8 A n c xs) (hn : n ≤ 1048576) (hwf : ∀ x ∈ xs, (Lit.int .u8 x).wf = true) (hc : c ≤ maxLen) :
    Calls Tryz.prog 12 #[.slice A n c] w (DrawnRun w) := by
  obtain ⟨i0, hi, hz0, hz1, hz2⟩ := info_parts dd_info
  have hB0 : Below w.heap.size w (w.alloc (.cells #[.slice none 0 0, .slice none 0 0, .slice none 0 0, .int .i64 0, .slice none 0 0] 33)) := (Below.refl _ _).alloc (Nat.le_refl _) _
  have HO := Lib.hid (open_any A n c xs (w.alloc (.cells #[.slice none 0 0, .slice none 0 0, .slice none 0 0, .int .i64 0, .slice none 0 0] 33)) (h.below hB0 (Nat.le_refl _)) hn hwf hc)
  have HB0 := Lib.hid hB0
  have HX := Lib.hid (Blk.new w 33 #[.slice none 0 0, .slice none 0 0, .slice none 0 0, .int .i64 0, .slice none 0 0])
  clear h hwf hc hB0
  go_enter Tryz.func12, Tryz.ntmps12
  go_wp2_with (fail)
  refine HO.out.mono ?_
  rintro e w1 ⟨rfl, hr, hb, -⟩
  have hX1 := Lib.hid (HX.out.below hb (by simp))
  have hB1 := Lib.hid (HB0.out.trans (hb.mono (by simp)))
  have hs1 := hb.size
  simp only [World.size_alloc] at hs1
  rw [World.size_alloc] at hr
  clear hb HO
  go_wp2_with (fail)
  refine (desk_any _ 0 12 w1 hr (by omega) (by omega) (by omega)).mono ?_
  rintro e w2 ⟨v, d, q, rfl, ho, hsm, hr2, hq, hg⟩
  obtain ⟨A1, c1, A2, c2, A3, c3, A5, c5, rfl, -⟩ := ho.dsk.ex
  have hX2 : Blk w2 w.heap.size 33 #[.slice none 0 0, .slice none 0 0, .slice none 0 0, .int .i64 0, .slice none 0 0] := hX1.out.grown hg (by simp)
  have hB2 := below_read hB1.out hg (by omega) (by simp)
  have hA := (Below.refl w2.heap.size w2).alloc (Nat.le_refl _) (.cells #[.slice A1 d.t.us.length c1, .slice A2 d.t.bs.length c2, .slice A3 d.t.ns.length c3, .int .i64 d.now, .slice A5 d.past.length c5] 33)
  have hs2 : w.heap.size + 1 < w2.heap.size := hr2.lt
  have hs3 : w.heap.size + 1 < w1.heap.size := hr.lt
  have S : KRS w (w.heap.size + 1) w1.heap.size q w2.heap.size #[.slice A1 d.t.us.length c1, .slice A2 d.t.bs.length c2, .slice A3 d.t.ns.length c3, .int .i64 d.now, .slice A5 d.past.length c5] (.agg #[.slice A1 d.t.us.length c1, .slice A2 d.t.bs.length c2, .slice A3 d.t.ns.length c3, .int .i64 d.now, .slice A5 d.past.length c5]) d (w2.alloc (.cells #[.slice A1 d.t.us.length c1, .slice A2 d.t.bs.length c2, .slice A3 d.t.ns.length c3, .int .i64 d.now, .slice A5 d.past.length c5] 33)) :=
    ⟨hr2.alloc' _, ho.below hA (Nat.le_refl _), hX2.alloc _, Blk.new w2 _ _, hB2.trans (hA.mono hB2.size), by omega, by omega, by omega, by omega⟩
  replace S := Lib.hid S
  replace hsm := Lib.hid hsm
  clear hr hr2 hg ho hX2 hB2 hX1 hB1 HX HB0 hA
  go_upto_region 3 with (fail)
  generalize w2.alloc (.cells #[.slice A1 d.t.us.length c1, .slice A2 d.t.bs.length c2, .slice A3 d.t.ns.length c3, .int .i64 d.now, .slice A5 d.past.length c5] 33) = W at *
  generalize w2.heap.size = qb at *
  generalize w.heap.size + 1 = g at *
  go_wp2_with (fail)
  refine (odd_any g q 30 _ S.out.rd (by omega) (by omega) (by omega)).mono ?_
  rintro e V ⟨tb, q1, rfl, hq1, hr1, hg1, -⟩
  have hg0 := S.out.g0
  have hgq := S.out.gq
  have hzW := S.out.low.size
  have S1 : KRS w g w1.heap.size q1 qb #[.slice A1 d.t.us.length c1, .slice A2 d.t.bs.length c2, .slice A3 d.t.ns.length c3, .int .i64 d.now, .slice A5 d.past.length c5] (.agg #[.slice A1 d.t.us.length c1, .slice A2 d.t.bs.length c2, .slice A3 d.t.ns.length c3, .int .i64 d.now, .slice A5 d.past.length c5]) d V :=
    ⟨hr1, S.out.own.keptG hg1 S.out.gB, S.out.kX.grown hg1 (by simp; omega), S.out.kQ.grown hg1 (by simp; omega), below_read S.out.low hg1 hzW (by omega), hg0, hgq, S.out.gB, S.out.wB⟩
  replace S := Lib.hid S1
  clear hr1 hg1 S1
  obtain ⟨⟨y0, y1, y2, y3, y4⟩, -⟩ := blk5 S.out.kQ
  obtain ⟨⟨z0, z1, z2, z3, z4⟩, ⟨f0, f1, f2, f3, f4⟩⟩ := blk5 S.out.kX
  have hwB := S.out.wB
  cases tb
  · have HD : ∀ W2, Below V.heap.size V W2 → Calls Tryz.prog 49 #[.pointer (some ⟨g, 0, none⟩)] W2 (fun e V2 => ∃ A c qs, e = .returned (.slice A qs.length c) ∧ qs.length ≤ 5 ∧ KRB w w1.heap.size qb #[.slice A1 d.t.us.length c1, .slice A2 d.t.bs.length c2, .slice A3 d.t.ns.length c3, .int .i64 d.now, .slice A5 d.past.length c5] (.agg #[.slice A1 d.t.us.length c1, .slice A2 d.t.bs.length c2, .slice A3 d.t.ns.length c3, .int .i64 d.now, .slice A5 d.past.length c5]) d (.slice A qs.length c) qs V2) := by
      intro W2 b2
      have S2 := S.out.below b2
      refine (deeds_any g q1 W2 S2.rd (by omega)).mono ?_
      rintro e V2 ⟨v2, qs, r, rfl, hqs, hl, -, -, -, hg2⟩
      obtain ⟨A, c, rfl, -⟩ := hqs.deeds
      exact ⟨A, c, qs, rfl, hl, ⟨S2.own.keptG hg2 S2.gB, S2.kX.grown hg2 (by simp; omega), S2.kQ.grown hg2 (by simp; omega), below_read S2.low hg2 S2.low.size (by omega), hqs.mono S2.low.size⟩⟩
    replace HD := Lib.hid HD
    clear S
    go_upto_region 5 with (fail)
    go_region_with (go_at_call 49; refine (HD.out _ (by first | exact Below.refl _ _ | exact (Below.refl _ _).drew)).mono ?_; rintro e V2 ⟨A, c, qs, rfl, hl, hK⟩; obtain ⟨⟨z0, z1, z2, z3, z4⟩, ⟨f0, f1, f2, f3, f4⟩⟩ := blk5 hK.kX; obtain ⟨⟨q0, q1, q2, q3, q4⟩, -⟩ := blk5 hK.kQ; replace hK := Lib.hid hK; go_simp)
    all_goals
      have hl1 : DrawnRun w (.returned (.tuple #[.agg #[.slice A1 d.t.us.length c1, .slice A2 d.t.bs.length c2, .slice A3 d.t.ns.length c3, .int .i64 d.now, .slice A5 d.past.length c5], .slice A qs.length c])) ((((((V2.setCell ⟨w.heap.size, 0, none⟩ (.slice A1 d.t.us.length c1)).setCell ⟨w.heap.size, 1, none⟩ (.slice A2 d.t.bs.length c2)).setCell ⟨w.heap.size, 2, none⟩ (.slice A3 d.t.ns.length c3)).setCell ⟨w.heap.size, 3, none⟩ (.int .i64 d.now)).setCell ⟨w.heap.size, 4, none⟩ (.slice A5 d.past.length c5))) := by
        obtain ⟨A', c', e, hd⟩ := (hK.out.dd.setD5 (u0 := .slice A1 d.t.us.length c1) (u1 := .slice A2 d.t.bs.length c2) (u2 := .slice A3 d.t.ns.length c3) (u3 := .int .i64 d.now) (u4 := .slice A5 d.past.length c5) hK.out.kX).deeds
        simp only [Value.slice.injEq, true_and] at e
        obtain ⟨rfl, rfl⟩ := e
        exact ⟨_, d, A, c, qs, rfl, (own_md5 hK.out.own hK.out.kX).mono hwB, hsm.out, hd, by omega, below_dk5 hK.out.low (Nat.le_refl _)⟩
      have hb1 : Blk ((((((V2.setCell ⟨w.heap.size, 0, none⟩ (.slice A1 d.t.us.length c1)).setCell ⟨w.heap.size, 1, none⟩ (.slice A2 d.t.bs.length c2)).setCell ⟨w.heap.size, 2, none⟩ (.slice A3 d.t.ns.length c3)).setCell ⟨w.heap.size, 3, none⟩ (.int .i64 d.now)).setCell ⟨w.heap.size, 4, none⟩ (.slice A5 d.past.length c5))) w.heap.size 33 #[.slice A1 d.t.us.length c1, .slice A2 d.t.bs.length c2, .slice A3 d.t.ns.length c3, .int .i64 d.now, .slice A5 d.past.length c5] := hK.out.kX.set5 (.slice A1 d.t.us.length c1) (.slice A2 d.t.bs.length c2) (.slice A3 d.t.ns.length c3) (.int .i64 d.now) (.slice A5 d.past.length c5)
      replace hl1 := Lib.hid hl1
      replace hb1 := Lib.hid hb1
      clear hK z0 z1 z2 z3 z4 f0 f1 f2 f3 f4 q0 q1 q2 q3 q4
      generalize (((((V2.setCell ⟨w.heap.size, 0, none⟩ (.slice A1 d.t.us.length c1)).setCell ⟨w.heap.size, 1, none⟩ (.slice A2 d.t.bs.length c2)).setCell ⟨w.heap.size, 2, none⟩ (.slice A3 d.t.ns.length c3)).setCell ⟨w.heap.size, 3, none⟩ (.int .i64 d.now)).setCell ⟨w.heap.size, 4, none⟩ (.slice A5 d.past.length c5)) = WW at *
      obtain ⟨⟨z0, z1, z2, z3, z4⟩, -⟩ := blk5 hb1.out
      go_wp2
      refine bodyPost_ret (v := .tuple #[.agg #[.slice A1 d.t.us.length c1, .slice A2 d.t.bs.length c2, .slice A3 d.t.ns.length c3, .int .i64 d.now, .slice A5 d.past.length c5], .slice A qs.length c]) (by simp [results, Tryz.results12, go_sem, z0, z1, z2, z3, z4]) rfl ?_
      exact hl1.out
  · have hmk : ∀ W, (Instr.makeSlice 24 (.int .i64 41) (.int .i64 41)).run Tryz.prog W = .ok (.slice (some ⟨W.heap.size, 0, none⟩) 41 41) (W.alloc (.cells (ddCells (List.replicate 41 ⟨0, 0⟩)).toArray 41)) := fun W => by
      have h0 := run_make_rowN (P := Tryz.prog) 24 41 i0 _ Tryz.underlying24 hi hz0 .i64 .i64 41 41 (Nat.le_refl _) (by rw [hz2]; omega) (by omega) W
      rw [hz1, made41] at h0
      exact h0
    have hl41 : (List.replicate 41 (⟨0, 0⟩ : Dd)).length = 41 := by simp
    replace hl41 := Lib.hid hl41
    generalize hq41 : List.replicate 41 (⟨0, 0⟩ : Dd) = q41 at *
    replace hq41 := Lib.hid hq41
    obtain ⟨⟨ya0, ya1, ya2, ya3, ya4⟩, -⟩ := blk5 (S.out.kQ.alloc (.cells (ddCells q41).toArray 41))
    obtain ⟨⟨za0, za1, za2, za3, za4⟩, ⟨fa0, fa1, fa2, fa3, fa4⟩⟩ := blk5 (S.out.kX.alloc (.cells (ddCells q41).toArray 41))
    have HR : ∀ W2, DeedsAre W2 (some ⟨V.heap.size, 0, none⟩) 41 41 q41 → MDk W2 w1.heap.size (.agg #[.slice A1 d.t.us.length c1, .slice A2 d.t.bs.length c2, .slice A3 d.t.ns.length c3, .int .i64 d.now, .slice A5 d.past.length c5]) d → Below w.heap.size w W2 → DrawnRun w (.returned (.tuple #[.agg #[.slice A1 d.t.us.length c1, .slice A2 d.t.bs.length c2, .slice A3 d.t.ns.length c3, .int .i64 d.now, .slice A5 d.past.length c5], .slice (some ⟨V.heap.size, 0, none⟩) 41 41])) W2 := fun W2 h1 h2 h3 => by
      have e41 := hl41.out
      refine ⟨_, d, some ⟨V.heap.size, 0, none⟩, 41, q41, by rw [e41], h2.mono hwB, hsm.out, by rw [e41]; exact h1, by omega, h3⟩
    have hdd : ∀ W2, OwnDds W2 V.heap.size (.slice (some ⟨V.heap.size, 0, none⟩) 41 41) q41 → DeedsAre W2 (some ⟨V.heap.size, 0, none⟩) 41 41 q41 := fun W2 ho => by
      obtain ⟨A, c, e, hd⟩ := ho.deeds
      rw [hl41.out] at e hd
      cases e
      exact hd
    have hnd : ∀ W2 : World, W2.heap.size = V.heap.size → OwnDds (W2.alloc (.cells (ddCells q41).toArray 41)) V.heap.size (.slice (some ⟨V.heap.size, 0, none⟩) 41 41) q41 := fun W2 hs => by
      unfold OwnDds
      rw [hl41.out]
      exact own_of_blk (blk_new_at _ hs) (Nat.le_refl _) hl41.out (by unfold maxLen; omega)
    have hl1 : DrawnRun w (.returned (.tuple #[.agg #[.slice A1 d.t.us.length c1, .slice A2 d.t.bs.length c2, .slice A3 d.t.ns.length c3, .int .i64 d.now, .slice A5 d.past.length c5], .slice (some ⟨V.heap.size, 0, none⟩) 41 41])) (((((((V.setCell ⟨w.heap.size, 0, none⟩ (.slice A1 d.t.us.length c1)).setCell ⟨w.heap.size, 1, none⟩ (.slice A2 d.t.bs.length c2)).setCell ⟨w.heap.size, 2, none⟩ (.slice A3 d.t.ns.length c3)).setCell ⟨w.heap.size, 3, none⟩ (.int .i64 d.now)).setCell ⟨w.heap.size, 4, none⟩ (.slice A5 d.past.length c5)).alloc (.cells (ddCells q41).toArray 41)).drew) := by
      have hA := (Below.refl ((((((V.setCell ⟨w.heap.size, 0, none⟩ (.slice A1 d.t.us.length c1)).setCell ⟨w.heap.size, 1, none⟩ (.slice A2 d.t.bs.length c2)).setCell ⟨w.heap.size, 2, none⟩ (.slice A3 d.t.ns.length c3)).setCell ⟨w.heap.size, 3, none⟩ (.int .i64 d.now)).setCell ⟨w.heap.size, 4, none⟩ (.slice A5 d.past.length c5))).heap.size ((((((V.setCell ⟨w.heap.size, 0, none⟩ (.slice A1 d.t.us.length c1)).setCell ⟨w.heap.size, 1, none⟩ (.slice A2 d.t.bs.length c2)).setCell ⟨w.heap.size, 2, none⟩ (.slice A3 d.t.ns.length c3)).setCell ⟨w.heap.size, 3, none⟩ (.int .i64 d.now)).setCell ⟨w.heap.size, 4, none⟩ (.slice A5 d.past.length c5)))).alloc (Nat.le_refl _) (.cells (ddCells q41).toArray 41)
      have hlow := below_dk5 (u0 := .slice A1 d.t.us.length c1) (u1 := .slice A2 d.t.bs.length c2) (u2 := .slice A3 d.t.ns.length c3) (u3 := .int .i64 d.now) (u4 := .slice A5 d.past.length c5) S.out.low (Nat.le_refl _)
      exact HR _ ((hdd _ (hnd _ (by simp))).below (Below.refl _ _).drew (Nat.le_refl _)) (((own_md5 S.out.own S.out.kX).below hA (Nat.le_refl _)).below (Below.refl _ _).drew (Nat.le_refl _)) (hlow.trans ((hA.mono hlow.size).drew))
    have hl2 : DrawnRun w (.returned (.tuple #[.agg #[.slice A1 d.t.us.length c1, .slice A2 d.t.bs.length c2, .slice A3 d.t.ns.length c3, .int .i64 d.now, .slice A5 d.past.length c5], .slice (some ⟨V.heap.size, 0, none⟩) 41 41])) (((((((V.alloc (.cells (ddCells q41).toArray 41)).setCell ⟨w.heap.size, 0, none⟩ (.slice A1 d.t.us.length c1)).setCell ⟨w.heap.size, 1, none⟩ (.slice A2 d.t.bs.length c2)).setCell ⟨w.heap.size, 2, none⟩ (.slice A3 d.t.ns.length c3)).setCell ⟨w.heap.size, 3, none⟩ (.int .i64 d.now)).setCell ⟨w.heap.size, 4, none⟩ (.slice A5 d.past.length c5)).drew) := by
      have hA := (Below.refl V.heap.size V).alloc (Nat.le_refl _) (.cells (ddCells q41).toArray 41)
      have S2 := S.out.below hA
      have hlow := below_dk5 (u0 := .slice A1 d.t.us.length c1) (u1 := .slice A2 d.t.bs.length c2) (u2 := .slice A3 d.t.ns.length c3) (u3 := .int .i64 d.now) (u4 := .slice A5 d.past.length c5) S2.low (Nat.le_refl _)
      exact HR _ ((hdd _ ((hnd V rfl).setD5 S2.kX)).below (Below.refl _ _).drew (Nat.le_refl _)) ((own_md5 S2.own S2.kX).below (Below.refl _ _).drew (Nat.le_refl _)) hlow.drew
    have hb1 : Blk (((((((V.setCell ⟨w.heap.size, 0, none⟩ (.slice A1 d.t.us.length c1)).setCell ⟨w.heap.size, 1, none⟩ (.slice A2 d.t.bs.length c2)).setCell ⟨w.heap.size, 2, none⟩ (.slice A3 d.t.ns.length c3)).setCell ⟨w.heap.size, 3, none⟩ (.int .i64 d.now)).setCell ⟨w.heap.size, 4, none⟩ (.slice A5 d.past.length c5)).alloc (.cells (ddCells q41).toArray 41)).drew) w.heap.size 33 #[.slice A1 d.t.us.length c1, .slice A2 d.t.bs.length c2, .slice A3 d.t.ns.length c3, .int .i64 d.now, .slice A5 d.past.length c5] := ((S.out.kX.set5 (.slice A1 d.t.us.length c1) (.slice A2 d.t.bs.length c2) (.slice A3 d.t.ns.length c3) (.int .i64 d.now) (.slice A5 d.past.length c5)).alloc _).drew
    have hb2 : Blk (((((((V.alloc (.cells (ddCells q41).toArray 41)).setCell ⟨w.heap.size, 0, none⟩ (.slice A1 d.t.us.length c1)).setCell ⟨w.heap.size, 1, none⟩ (.slice A2 d.t.bs.length c2)).setCell ⟨w.heap.size, 2, none⟩ (.slice A3 d.t.ns.length c3)).setCell ⟨w.heap.size, 3, none⟩ (.int .i64 d.now)).setCell ⟨w.heap.size, 4, none⟩ (.slice A5 d.past.length c5)).drew) w.heap.size 33 #[.slice A1 d.t.us.length c1, .slice A2 d.t.bs.length c2, .slice A3 d.t.ns.length c3, .int .i64 d.now, .slice A5 d.past.length c5] := ((S.out.kX.alloc _).set5 (.slice A1 d.t.us.length c1) (.slice A2 d.t.bs.length c2) (.slice A3 d.t.ns.length c3) (.int .i64 d.now) (.slice A5 d.past.length c5)).drew
    replace hl1 := Lib.hid hl1
    replace hl2 := Lib.hid hl2
    replace hb1 := Lib.hid hb1
    replace hb2 := Lib.hid hb2
    clear HR hdd hnd
    go_upto_region 4 with (fail)
    go_region
    · clear S y0 y1 y2 y3 y4 z0 z1 z2 z3 z4 f0 f1 f2 f3 f4 ya0 ya1 ya2 ya3 ya4 za0 za1 za2 za3 za4 fa0 fa1 fa2 fa3 fa4 hl2 hb2 hmk
      generalize ((((((V.setCell ⟨w.heap.size, 0, none⟩ (.slice A1 d.t.us.length c1)).setCell ⟨w.heap.size, 1, none⟩ (.slice A2 d.t.bs.length c2)).setCell ⟨w.heap.size, 2, none⟩ (.slice A3 d.t.ns.length c3)).setCell ⟨w.heap.size, 3, none⟩ (.int .i64 d.now)).setCell ⟨w.heap.size, 4, none⟩ (.slice A5 d.past.length c5)).alloc (.cells (ddCells q41).toArray 41)).drew = WW at *
      obtain ⟨⟨z0, z1, z2, z3, z4⟩, -⟩ := blk5 hb1.out
      go_wp2
      refine bodyPost_ret (v := .tuple #[.agg #[.slice A1 d.t.us.length c1, .slice A2 d.t.bs.length c2, .slice A3 d.t.ns.length c3, .int .i64 d.now, .slice A5 d.past.length c5], .slice (some ⟨V.heap.size, 0, none⟩) 41 41]) (by simp [results, Tryz.results12, go_sem, z0, z1, z2, z3, z4]) rfl ?_
      exact hl1.out
    · clear S y0 y1 y2 y3 y4 z0 z1 z2 z3 z4 f0 f1 f2 f3 f4 ya0 ya1 ya2 ya3 ya4 za0 za1 za2 za3 za4 fa0 fa1 fa2 fa3 fa4 hl1 hb1 hmk
      generalize ((((((V.alloc (.cells (ddCells q41).toArray 41)).setCell ⟨w.heap.size, 0, none⟩ (.slice A1 d.t.us.length c1)).setCell ⟨w.heap.size, 1, none⟩ (.slice A2 d.t.bs.length c2)).setCell ⟨w.heap.size, 2, none⟩ (.slice A3 d.t.ns.length c3)).setCell ⟨w.heap.size, 3, none⟩ (.int .i64 d.now)).setCell ⟨w.heap.size, 4, none⟩ (.slice A5 d.past.length c5)).drew = WW at *
      obtain ⟨⟨z0, z1, z2, z3, z4⟩, -⟩ := blk5 hb2.out
      go_wp2
      refine bodyPost_ret (v := .tuple #[.agg #[.slice A1 d.t.us.length c1, .slice A2 d.t.bs.length c2, .slice A3 d.t.ns.length c3, .int .i64 d.now, .slice A5 d.past.length c5], .slice (some ⟨V.heap.size, 0, none⟩) 41 41]) (by simp [results, Tryz.results12, go_sem, z0, z1, z2, z3, z4]) rfl ?_
      exact hl2.out
end Go.Proofs.YtmhgpbfogdoaeaaGreatDoor

/- OffM -/
namespace Go.Proofs.YtmhgpbfogdoaeaaGreatDoor
open Go.RowKit

/-- A block that is none of a desk's rows. -/
def OffM (k : Nat) (v : Value) : Prop := ∃ v1 v2 v3 v4 v5, v = .agg #[v1, v2, v3, v4, v5] ∧ v1.ownBlock ≠ some k ∧ v2.ownBlock ≠ some k ∧ v3.ownBlock ≠ some k ∧ v5.ownBlock ≠ some k
section
variable {w w' : World} {B k : Nat} {v : Value} {d : Dk}
end
end Go.Proofs.YtmhgpbfogdoaeaaGreatDoor

/- DrawLn -/
namespace Go.Proofs.YtmhgpbfogdoaeaaGreatDoor
open Go.RowKit

section
variable {w wx w' : World} {g B q3 q q' : Nat} {C3 : Array Value} {t : Tg}
end
end Go.Proofs.YtmhgpbfogdoaeaaGreatDoor

/- DrawDl -/
namespace Go.Proofs.YtmhgpbfogdoaeaaGreatDoor
open Go.RowKit

section
variable {w W W' : World} {g B q q' qb : Nat} {CS : Array Value} {v : Value} {d : Dk}
end
section
variable {w Wb W W' : World} {g B q q' qb : Nat} {CS : Array Value} {v va : Value} {d : Dk} {ls : List ByteArray}
end
end Go.Proofs.YtmhgpbfogdoaeaaGreatDoor
