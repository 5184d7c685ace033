/-
  A drawn tongue that is always one: no one in none is spoilt.
-/
import Derived.Test.YtjnlpknjdclalaaGC
namespace Go.Proofs.Ytjnlpknjdclalaa
open Go.RowKit

theorem odd0_any (g p : Nat) (w : World) (h : Rd w g p) :
    Calls Try.prog 28 #[.pointer (some ⟨g, 0, none⟩), .int .i64 0] w (OddPost g p w) := by
  have HF : ∀ t, OddPost g p w (.returned (.bool t)) w := fun t => ⟨t, p, rfl, Nat.le_succ _, h, World.grownBy.refl w _, rfl⟩
  replace HF := Lib.hid HF
  clear h
  go_enter Try.func28, Try.ntmps28
  go_wp2
  go_ret
  exact HF.out _

set_option maxRecDepth 100000 in
set_option maxHeartbeats 16000000 in
theorem drawn0_any (g p : Nat) (w : World) (h : Rd w g p) (hp : p ≤ 1000) :
    Calls Try.prog 53 #[.pointer (some ⟨g, 0, none⟩), .int .i64 0] w (RetDrawn w g p) := by
  obtain ⟨is0, his, hzs0, hzs1, hzs2⟩ := info_parts str_info
  obtain ⟨ii0, hii, hzi0, hzi1, hzi2⟩ := info_parts int_info0
  have HR := Lib.hid h
  have HP := Lib.hid (pick_any g p 6 (w.alloc zeroTng) (h.alloc' _) (by omega) (by omega) (by omega))
  clear h
  go_enter Try.func53, Try.ntmps53
  go_wp2_with (fail)
  refine HP.out.mono ?_
  rintro e w1 ⟨k1, rfl, hk1, hr1, hg1, -⟩
  clear HP
  replace hr1 := Lib.hid hr1
  replace hg1 := Lib.hid hg1
  go_wp2_with (fail)
  refine (tongues_any k1 w1).mono ?_
  rintro e w2 ⟨v, t, rfl, ho, hsm, hu1, hb⟩
  obtain ⟨v1, v2, v3, rfl, o1, o2, o3, hap⟩ := ho.ex
  obtain ⟨A1, c1, rfl, -⟩ := o1.strs
  obtain ⟨A2, c2, rfl, -⟩ := o2.ints
  obtain ⟨A3, c3, rfl, -⟩ := o3.strs
  have HD := DSt.start HR.out hr1.out hg1.out ho hb
  have HSM := Lib.hid (And.intro hsm hu1)
  have hPk := fun W q (hr : Rd W g q) (hq : q ≤ 5000) (m : Int) (hm : 1 ≤ m) (hm' : m ≤ 1000) => pick_any g q m W hr (by omega) (by omega) (by omega)
  replace hPk := Lib.hid hPk
  replace HD := Lib.hid HD
  have hws : w.heap.size < w2.heap.size := HD.out.ge
  clear hr1 hg1 ho hsm hb hap o1 o2 o3 HR
  go_upto_region 2 with (fail)
  generalize hW3 : w2.alloc (.cells #[.slice A1 t.us.length c1, .slice A2 t.bs.length c2, .slice A3 t.ns.length c3] 26) = W3 at *
  generalize w2.heap.size = b at *
  clear hW3
  go_wp2_with (fail)
  refine (hPk.out _ _ HD.out.rd (by omega) 4 (by omega) (by omega)).mono ?_
  rintro e W4 ⟨k2, rfl, hk2, hr2, hg2, -⟩
  have HD4 := Lib.hid (HD.out.pick hr2 hg2)
  go_upto_if 13 with (fail)
  go_cut [6, 7] (fun s6 s7 wx => Mid w g p wx b)
  case first =>
    by_cases hk0 : k2 = 0
    · subst hk0
      have hb5 := HD4.out.blk
      obtain ⟨z0, z1, z2, f0, f1, f2⟩ := blk3 hb5
      have hbW : b < W4.heap.size := hb5.lt
      have hbeq : ((0 : Int) == 0) = true := rfl
      go_upto_region 4 with (fail)
      have HD5 := Lib.hid HD4.out.reset
      clear hb5 z0 z1 z2 f0 f1 f2 hbW hbeq hk2 hr2 hg2
      generalize hA5 : W4.heap.size = a5 at *
      generalize (((W4.setCell ⟨b, 0, none⟩ (.slice none 0 0)).setCell ⟨b, 1, none⟩ (.slice (some ⟨a5, 0, none⟩) 1 1)).setCell ⟨b, 2, none⟩ (.slice none 0 0)).alloc (.cells #[.int .i64 1] 3) = W5 at *
      clear hA5
      go_wp2_with (fail)
      refine (hPk.out _ _ HD5.out.rd (by omega) 4 (by omega) (by omega)).mono ?_
      rintro e W6 ⟨k3, rfl, hk3, hr6, hg6, -⟩
      have HD6 := Lib.hid (HD5.out.pick hr6 hg6)
      obtain ⟨M, hM, hM1, hM4⟩ : ∃ M : Nat, 1 + k3 = (M : Int) ∧ 1 ≤ M ∧ M ≤ 4 := ⟨(1 + k3).toNat, by omega, by omega, by omega⟩
      clear HD4 HD5 hr6 hg6
      have hw3 : IntKind.i64.wrap (1 + k3) = (M : Int) := by rw [← hM]; exact IntWalk.i64_in _ (by omega)
      have hk3a := hk3.1
      have hk3b : k3 ≤ 3 := by omega
      replace hM := Lib.hid hM
      go_wp2
      go_loopw [7] (fun s7 wr => ∃ (j q : Nat) (us : List ByteArray) (v1 v2 v3 : Value), j ≤ M ∧ s7 = .int .i64 j ∧ DSt w g wr b ⟨us, [1], []⟩ v1 v2 v3 q ∧ us.length = j ∧ (∀ x ∈ us, x.size ≤ 16) ∧ q ≤ p + 3 + j) (fun s7 _ => M - (intOf s7).toNat)
      case atStart => exact ⟨0, _, [], _, _, _, Nat.zero_le _, rfl, HD6.out, rfl, by simp, by omega⟩
      case round =>
        obtain ⟨_, q, us, v1, v2, v3, hj, rfl, hd, rfl, hus, hq⟩ := hrel
        by_cases hlt : us.length < M
        · have hX := hd.blk
          obtain ⟨B1, d1, rfl, -⟩ := hd.o1.strs
          obtain ⟨z0, z1, z2, f0, f1, f2⟩ := blk3 hX
          have hbW : b < wr.heap.size := hX.lt
          have e1 : IntKind.i64.wrap ((us.length : Int) + 1) = (us.length : Int) + 1 := IntWalk.i64_in _ (by omega)
          have e2 : (0 : Int) ≤ (us.length : Int) := by omega
          have e3 : (us.length : Int) ≤ (us.length : Int) + 1 := by omega
          have e4 : (us.length : Int) + 1 ≤ 8 := by omega
          replace hd := Lib.hid hd
          have k1 := Lib.hid (show us.length + 1 ≤ maxLen by unfold maxLen; omega)
          have k2 := Lib.hid (show (us.length + 1) * 16 ≤ 140737488355328 by omega)
          clear hX
          go_wp2
          go_region_law (first
              | (refine step_app _ (by rfl) (.tmp 25) (.tmp 36) _ (by rfl) w.heap.size 9 is0 _ 16 Try.underlying23 his hzs0 hzs1 hzs2 rfl (.slice B1 us.length d1) us.length (us.map Value.string) (by rfl) (by first | exact (HD7.out.alloc _).o1 | exact ((HD7.out.alloc _).alloc _).o1) (some ⟨_, 0, none⟩) 1 1 [.string _] (by rfl) (Src.one (blk_new_at _ (by simp)) rfl) k1.out k2.out (by have := HD7.out.gr.size; simp; omega) ?_; intro v8 w8 ho8 hg8 hat8; obtain ⟨u8, hu8, hul8, hus8⟩ := own_snoc2 ho8 hus (by simp [ByteArray.size_append, ByteArray.size_extract]; omega); obtain ⟨B8, d8, rfl, -⟩ := hu8.strs; have HD8 := (by first | exact (HD7.out.alloc _).app1 hu8 hg8 hat8 | exact ((HD7.out.alloc _).alloc _).app1 hu8 hg8 hat8); replace hul8 := Lib.hid hul8; obtain ⟨z08, -, -, f08, -, -⟩ := blk3 (by first | exact (HD7.out.alloc _).mid1 hg8 | exact ((HD7.out.alloc _).alloc _).mid1 hg8); replace HD8 := Lib.hid HD8; clear ho8 hu8 hg8 hat8)
              | (go_simp; go_at_call 54; refine (hPk.out _ q (by first | exact hd.out.drew.rd | exact (hd.out.alloc _).drew.rd) (by omega) 3 (by omega) (by omega)).mono ?_; rintro e W7 ⟨k7, rfl, hk7, hr7, hg7, -⟩; obtain ⟨kk, rfl⟩ : ∃ kk : Nat, k7 = (kk : Int) := ⟨k7.toNat, by omega⟩; have hkk : kk < 3 := (by omega); obtain ⟨y, hy, hys, hy2⟩ := pick3 ⟨#[]⟩ ⟨#[97]⟩ ⟨#[98]⟩ 1 kk hkk (by decide) (by decide) (by decide); have HD7 := (by first | exact (hd.out.drew.pick hr7 hg7) | exact ((hd.out.alloc _).drew.pick hr7 hg7)); (try have hc7 : W7.cell? ⟨wr.heap.size, kk, none⟩ = some (.string y) := (((Blk.new wr _ _).drew.grown hg7 (fun e => by have e' := Option.some.inj e; have := hd.out.gr.size; have := hd.out.glt; omega)).cell kk).trans hy); obtain ⟨z0', -, -, f0', -, -⟩ := blk3 HD7.blk; have hbW7 : b < W7.heap.size := HD7.blk.lt; have hkk1 : (kk : Int) < 3 := (by omega); have hkk0 : (0 : Int) ≤ (kk : Int) := (by omega); have hcat : ¬ (9223372036854775807 < min (us.length + 1) 8 - us.length + y.size) := (by omega); replace HD7 := Lib.hid HD7; clear hr7 hg7 hk7))
          all_goals
            clear z0 z1 z2 f0 f1 f2 hbW z0' f0' hbW7 z08 f08 e1 e2 e3 e4 hcat hkk0 hkk1 hy hy2 HD7 hd
            go_wp2
            go_roundw
            case rel => exact ⟨u8.length, q+1, u8, _, _, _, by rw [hul8.out]; omega, by rw [hul8.out]; go_num, HD8.out, rfl, hus8, by rw [hul8.out]; omega⟩
            case measure => simp [intOf]; omega
        · have hlM : us.length = M := by omega
          replace hlM := Lib.hid hlM
          replace hd := Lib.hid hd
          go_wp2_with (fail)
          refine (hPk.out _ q hd.out.rd (by omega) 2 (by omega) (by omega)).mono ?_
          rintro e W9 ⟨k9, rfl, hk9, hr9, hg9, -⟩
          have HD9 := Lib.hid (hd.out.pick hr9 hg9)
          clear hd hr9 hg9
          by_cases hk90 : k9 = 0
          · subst hk90
            have hbeq : ((0 : Int) == 0) = true := rfl
            have hX9 := HD9.out.blk
            obtain ⟨B2, d2, rfl, -⟩ := HD9.out.o2.ints
            obtain ⟨B3, d3, rfl, -⟩ := HD9.out.o3.strs
            obtain ⟨z0, z1, z2, f0, f1, f2⟩ := blk3 hX9
            have hbW : b < W9.heap.size := hX9.lt
            have e1 : IntKind.i64.wrap ((M : Int) + 1) = (M : Int) + 1 := IntWalk.i64_in _ (by omega)
            clear hX9
            simp only [List.length_cons, List.length_nil, Nat.zero_add] at z1 z2
            go_wp2_with (at_builtin; refine wpList_app _ rfl (.tmp 43) (.tmp 46) _ rfl w.heap.size 3 ii0 _ 8 Try.underlying24 hii hzi0 hzi1 hzi2 rfl (.slice B2 1 d2) 1 ([1].map (Value.int .i64)) rfl (HD9.out.alloc _).o2 (some ⟨_, 0, none⟩) 1 1 [.int .i64 _] rfl (Src.one (blk_new_at _ rfl) rfl) (by unfold maxLen; omega) (by omega) (by have := HD9.out.gr.size; simp; omega) ?_; intro v10 w10 ho10 hg10 _; obtain ⟨b10, hb10, hbl10, hbf10⟩ := own_snocI ho10 (by simp) (by omega); obtain ⟨B10, d10, rfl, -⟩ := hb10.ints; obtain ⟨z010, z110, z210, f010, f110, f210⟩ := blk3 ((HD9.out.alloc _).mid2 hg10); have HD10 := Lib.hid ((HD9.out.alloc _).app2 hb10 hg10); replace hbl10 := Lib.hid hbl10; clear ho10 hb10 hg10)
            clear z0 z1 z2 f0 f1 f2 hbW
            replace hbf10 := Lib.hid hbf10
            generalize w10.setCell ⟨b, 1, none⟩ (.slice B10 b10.length d10) = W11 at *
            clear z010 z110 z210 f010 f110 f210
            obtain ⟨z0, z1, z2, f0, f1, f2⟩ := blk3 HD10.out.blk
            simp only [List.length_nil] at z2
            have hbW : b < W11.heap.size := HD10.out.blk.lt
            have k1 := Lib.hid (show 0 + 1 ≤ maxLen by unfold maxLen; omega)
            have k2 := Lib.hid (show (0 + 1) * 16 ≤ 140737488355328 by omega)
            go_region_law (first
              | (refine step_app _ (by rfl) (.tmp 50) (.tmp 57) _ (by rfl) w.heap.size 9 is0 _ 16 Try.underlying23 his hzs0 hzs1 hzs2 rfl (.slice B3 0 d3) 0 (([] : List ByteArray).map Value.string) (by rfl) (by first | exact (HD12.out.alloc _).o3 | exact ((HD12.out.alloc _).alloc _).o3) (some ⟨_, 0, none⟩) 1 1 [.string _] (by rfl) (Src.one (blk_new_at _ (by simp)) rfl) k1.out k2.out (by have := HD12.out.gr.size; simp; omega) ?_; intro v13 w13 ho13 hg13 hat13; obtain ⟨u13, hu13, hul13, hus13⟩ := own_snoc2 (m := 16) ho13 (by simp) (by rw [ByteArray.size_append]; show 1 + _ ≤ 16; omega); obtain ⟨B13, d13, rfl, -⟩ := hu13.strs; have HD13 := (by first | exact (HD12.out.alloc _).app3 hu13 hg13 hat13 | exact ((HD12.out.alloc _).alloc _).app3 hu13 hg13 hat13); replace hul13 := Lib.hid hul13; obtain ⟨z013, z113, z213, f013, f113, f213⟩ := blk3 (by first | exact (HD12.out.alloc _).mid3 hg13 | exact ((HD12.out.alloc _).alloc _).mid3 hg13); replace HD13 := Lib.hid HD13; clear ho13 hu13 hg13 hat13)
              | (go_simp; go_at_call 54; refine (hPk.out _ (q+1) (by first | exact HD10.out.drew.rd | exact (HD10.out.alloc _).drew.rd) (by omega) 2 (by omega) (by omega)).mono ?_; rintro e W12 ⟨k7, rfl, hk7, hr7, hg7, -⟩; obtain ⟨kk, rfl⟩ : ∃ kk : Nat, k7 = (kk : Int) := ⟨k7.toNat, by omega⟩; have hkk : kk < 2 := (by omega); obtain ⟨y, hy, hys, hy2⟩ := pick2 ⟨#[]⟩ ⟨#[97]⟩ 1 kk hkk (by decide) (by decide); have HD12 := (by first | exact (HD10.out.drew.pick hr7 hg7) | exact ((HD10.out.alloc _).drew.pick hr7 hg7)); (try have hc7 : W12.cell? ⟨W11.heap.size, kk, none⟩ = some (.string y) := (((Blk.new W11 _ _).drew.grown hg7 (fun e => by have e' := Option.some.inj e; have := HD10.out.gr.size; have := HD10.out.glt; omega)).cell kk).trans hy); obtain ⟨z0', z1', z2', f0', f1', f2'⟩ := blk3 HD12.blk; have hbW7 : b < W12.heap.size := HD12.blk.lt; have hkk1 : (kk : Int) < 2 := (by omega); have hkk0 : (0 : Int) ≤ (kk : Int) := (by omega); have hcat : ¬ (9223372036854775807 < 1 + y.size) := (by omega); replace HD12 := Lib.hid HD12; clear hr7 hg7 hk7))
            all_goals
              have HM13 : Mid w g p _ b := ⟨_, _, _, _, _, HD13.out, ⟨by show us.length ≤ 25; omega, by show b10.length ≤ 25; rw [hbl10.out]; simp, by show u13.length ≤ 25; rw [hul13.out]; simp, hbf10.out, fun x hx => by
                rcases List.mem_append.1 hx with h | h
                · exact hus x h
                · exact hus13 x h⟩, by show 1 ≤ us.length; omega, by omega⟩
              replace HM13 := Lib.hid HM13
              clear z0 z1 z2 f0 f1 f2 hbW z0' z1' z2' f0' f1' f2' hbW7 z013 z113 z213 f013 f113 f213 hcat hkk0 hkk1 hy hy2 HD12 HD10 HD9 HD13
              go_wp2
              go_meet
              exact HM13.out
          · have hk90' : (k9 == 0) = false := by simpa using hk90
            have HM9 : Mid w g p W9 b := ⟨_, _, _, _, _, HD9.out, ⟨by show us.length ≤ 25; omega, by simp, by simp, by simp, fun x hx => hus x (by simpa using hx)⟩, by show 1 ≤ us.length; omega, by omega⟩
            replace HM9 := Lib.hid HM9
            go_wp2
            go_meet
            exact HM9.out
    · have hk0' : (k2 == 0) = false := by simpa using hk0
      have HM4 : Mid w g p W4 b := ⟨_, _, _, _, _, HD4.out, HSM.out.1, HSM.out.2, by omega⟩
      replace HM4 := Lib.hid HM4
      go_wp2
      go_meet
      exact HM4.out
  case rest =>
    obtain ⟨t', a1, a2, a3, q, hd, hs, hu, hq⟩ := hcut
    have hO := odd0_any g q wc hd.rd
    obtain ⟨B1, d1, rfl, -⟩ := hd.o1.strs
    obtain ⟨B2, d2, rfl, -⟩ := hd.o2.ints
    obtain ⟨B3, d3, rfl, -⟩ := hd.o3.strs
    replace hO := Lib.hid hO
    replace hd := Lib.hid hd
    replace hs := Lib.hid hs
    clear HD4 HSM
    go_wp2_with (fail)
    refine hO.out.mono ?_
    rintro e W1 ⟨bt, q1, rfl, hq1, hr1, hg1, -⟩
    have HD1 := hd.out.kept hr1 hg1 (fun r e => .inl (by cases e; rfl))
    clear hO hd hr1 hg1
    obtain ⟨z0, z1, z2, f0, f1, f2⟩ := blk3 HD1.blk
    obtain ⟨r0, r1, r2, e0, e1, e2⟩ := blk3 HD1.res
    have hbW := HD1.blk.lt
    have hgt := HD1.ge
    replace HD1 := Lib.hid HD1
    cases bt
    · go_wp2
      refine bodyPost_ret (v := .agg #[.slice B1 t'.us.length d1, .slice B2 t'.bs.length d2, .slice B3 t'.ns.length d3]) (by simp [results, Try.results53, go_sem, r0, r1, r2]) rfl ?_
      exact HD1.out.finish (hs.out.mono (by omega)) (by omega)
    · go_wp2_with (fail)
      refine (hPk.out _ q1 HD1.out.rd (by omega) 4 (by omega) (by omega)).mono ?_
      rintro e W2 ⟨k4, rfl, hk4, hr2, hg2, -⟩
      have HD2 := HD1.out.pick hr2 hg2
      clear HD1 hr2 hg2 z0 z1 z2 f0 f1 f2 r0 r1 r2 e0 e1 e2 hbW
      obtain ⟨z0, z1, z2, f0, f1, f2⟩ := blk3 HD2.blk
      obtain ⟨r0, r1, r2, e0, e1, e2⟩ := blk3 HD2.res
      have hbW := HD2.blk.lt
      have hwW := HD2.res.lt
      have hgl := HD2.glt
      replace HD2 := Lib.hid HD2
      have hcase : k4 = 0 ∨ k4 = 1 ∨ k4 = 2 ∨ k4 = 3 := by omega
      rcases hcase with rfl | rfl | rfl | rfl
      · go_wp2
        refine bodyPost_ret (v := .agg #[.slice none 0 0, .slice none 0 0, .slice none 0 0]) (by simp [results, Try.results53, go_sem, r0, r1, r2]) rfl ?_
        exact HD2.out.finish0 (by omega)
      · -- the first unit becomes another word
        have ho := HD2.out.o1
        obtain ⟨gb, cap, ev, hgb0, hgb⟩ := World.ownsRow.form ho (by omega)
        cases ev
        have cu := World.ownsRow.cellAt ho 0 (by omega)
        rw [List.getElem?_map, List.getElem?_eq_getElem (by omega : 0 < t'.us.length)] at cu
        simp only [Option.map_some] at cu
        have fu := World.ownsRow.frozenAt ho 0
        obtain ⟨x0, hx0⟩ : ∃ x0, t'.us[0] = x0 := ⟨_, rfl⟩
        rw [hx0] at cu
        replace hx0 := Lib.hid hx0
        have hul : (0 : Int) < (t'.us.length : Int) := by omega
        have hul' : 0 < t'.us.length := by omega
        have hgbg : gb ≠ g := by omega
        have hgbb : gb ≠ b := fun e => own_blk_ne ho HD2.out.blk ne_string_tongue (by rw [e]; rfl)
        clear ho
        go_wp2_with (fail)
        go_region_law (first
          | (go_simp; go_at_call 54; refine (hPk.out _ (q1+1) (by first | exact HD2.out.drew.rd | exact (HD2.out.alloc _).drew.rd) (by omega) 3 (by omega) (by omega)).mono ?_; rintro e W3 ⟨k7, rfl, hk7, hr7, hg7, -⟩; obtain ⟨kk, rfl⟩ : ∃ kk : Nat, k7 = (kk : Int) := ⟨k7.toNat, by omega⟩; have hkk : kk < 3 := (by omega); obtain ⟨y, hy, hys, hy2⟩ := pick3 ⟨#[]⟩ ⟨#[65]⟩ ⟨#[111, 110, 101, 104, 117, 110, 100, 114, 101, 100]⟩ 10 kk hkk (by decide) (by decide) (by decide); have HD3 := (by first | exact (HD2.out.drew.pick hr7 hg7) | exact ((HD2.out.alloc _).drew.pick hr7 hg7)); (try have hc7 : W3.cell? ⟨W2.heap.size, kk, none⟩ = some (.string y) := (((Blk.new W2 _ _).drew.grown hg7 (fun e => by have e' := Option.some.inj e; have := HD2.out.gr.size; omega)).cell kk).trans hy); obtain ⟨z0', z1', z2', f0', f1', f2'⟩ := blk3 HD3.blk; have hbW7 : b < W3.heap.size := HD3.blk.lt; have hkk1 : (kk : Int) < 3 := (by omega); have hkk0 : (0 : Int) ≤ (kk : Int) := (by omega); have cu' : W3.cell? ⟨gb, 0, none⟩ = some (.string x0) := (by have := World.ownsRow.cellAt HD3.o1 0 (by omega); rw [List.getElem?_map, List.getElem?_eq_getElem (by omega : 0 < t'.us.length)] at this; simpa [hx0.out] using this); have fu' := World.ownsRow.frozenAt HD3.o1 0; have hgbW : gb < W3.heap.size := (HD3.o1.lt gb rfl).2; replace HD3 := Lib.hid HD3; clear hr7 hg7 hk7))
        all_goals
          have HD5 := HD3.out.set0 y
          have hs5 : SmallT 40 ⟨t'.us.set 0 y, t'.bs, t'.ns⟩ := ⟨by have := hs.out.us; simp; omega, by have := hs.out.bs; show t'.bs.length ≤ 40; omega, by have := hs.out.ns; show t'.ns.length ≤ 40; omega, hs.out.fit, fun x hx => by
            rcases List.mem_append.1 hx with h | h
            · rcases List.mem_or_eq_of_mem_set h with h | h
              · exact hs.out.size x (List.mem_append.2 (.inl h))
              · rw [h]; omega
            · exact hs.out.size x (List.mem_append.2 (.inr h))⟩
          clear cu fu cu' fu' z0 z1 z2 f0 f1 f2 z0' z1' z2' f0' f1' f2' r0 r1 r2 e0 e1 e2 hbW hbW7 hgbW hwW HD2 HD3 hy hy2 hkk0 hkk1
          generalize W3.setCell ⟨gb, 0, none⟩ (.string y) = W5 at *
          obtain ⟨z0, z1, z2, f0, f1, f2⟩ := blk3 HD5.blk
          obtain ⟨r0, r1, r2, e0, e1, e2⟩ := blk3 HD5.res
          have hbW := HD5.blk.lt
          have hwW := HD5.res.lt
          replace HD5 := Lib.hid HD5
          replace hs5 := Lib.hid hs5
          go_wp2
          refine bodyPost_ret (v := .agg #[.slice (some ⟨gb, 0, none⟩) t'.us.length d1, .slice B2 t'.bs.length d2, .slice B3 t'.ns.length d3]) (by simp [results, Try.results53, go_sem, r0, r1, r2, hwW]) rfl ?_
          first
            | exact HD5.out.finish hs5.out (by omega)
            | exact (HD5.out.finish hs5.out (by omega)).alloc' _
      · -- the first unit once more
        have ho := HD2.out.o1
        obtain ⟨gb, cap, ev, hgb0, hgb⟩ := World.ownsRow.form ho (by omega)
        cases ev
        have cu := World.ownsRow.cellAt ho 0 (by omega)
        rw [List.getElem?_map, List.getElem?_eq_getElem (by omega : 0 < t'.us.length)] at cu
        simp only [Option.map_some] at cu
        have hx16 := hs.out.size t'.us[0] (List.mem_append.2 (.inl (List.getElem_mem _)))
        have hul : (0 : Int) < (t'.us.length : Int) := by omega
        have hul' : 0 < t'.us.length := by omega
        have hu25 := hs.out.us
        have k1 := Lib.hid (show t'.us.length + 1 ≤ maxLen by unfold maxLen; omega)
        have k2 := Lib.hid (show (t'.us.length + 1) * 16 ≤ 140737488355328 by omega)
        generalize t'.us[0] = x0 at *
        clear ho
        go_wp2_with (fail)
        go_region_law (first
          | (refine step_app _ (by rfl) (.tmp 86) (.tmp 91) _ (by rfl) w.heap.size 9 is0 _ 16 Try.underlying23 his hzs0 hzs1 hzs2 rfl (.slice (some ⟨gb, 0, none⟩) t'.us.length d1) t'.us.length (t'.us.map Value.string) (by rfl) ((HD2.out.alloc _).drew.o1) (some ⟨_, 0, none⟩) 1 1 [.string x0] (by rfl) (Src.one (blk_new_at _ rfl).drew rfl) k1.out k2.out (by have := HD2.out.gr.size; simp; omega) ?_; intro v3 w3 ho3 hg3 hat3; obtain ⟨u8, hu8, hul8, hus8⟩ := own_snoc2 (m := 16) ho3 (fun y hy => hs.out.size y (List.mem_append.2 (.inl hy))) hx16; obtain ⟨B8, d8, rfl, -⟩ := hu8.strs; obtain ⟨z03, z13, z23, f03, f13, f23⟩ := blk3 ((HD2.out.alloc _).drew.mid1 hg3); have HD3 := ((HD2.out.alloc _).drew).app1 hu8 hg3 hat3; replace hul8 := Lib.hid hul8; replace hus8 := Lib.hid hus8; replace HD3 := Lib.hid HD3; clear ho3 hu8 hg3 hat3))
        all_goals
          have hs5 : SmallT 40 ⟨u8, t'.bs, t'.ns⟩ := ⟨by show u8.length ≤ 40; rw [hul8.out]; omega, by have := hs.out.bs; show t'.bs.length ≤ 40; omega, by have := hs.out.ns; show t'.ns.length ≤ 40; omega, hs.out.fit, fun x hx => by
            rcases List.mem_append.1 hx with h | h
            · exact hus8.out x h
            · exact hs.out.size x (List.mem_append.2 (.inr h))⟩
          replace hs5 := Lib.hid hs5
          clear cu
          clear z0 z1 z2 f0 f1 f2 r0 r1 r2 e0 e1 e2 hbW hwW z03 z13 z23 f03 f13 f23 HD2
          generalize w3.setCell ⟨b, 0, none⟩ (.slice B8 u8.length d8) = W5 at *
          obtain ⟨z0, z1, z2, f0, f1, f2⟩ := blk3 HD3.out.blk
          obtain ⟨r0, r1, r2, e0, e1, e2⟩ := blk3 HD3.out.res
          have hbW := HD3.out.blk.lt
          have hwW := HD3.out.res.lt
          go_wp2
          refine bodyPost_ret (v := .agg #[.slice B8 u8.length d8, .slice B2 t'.bs.length d2, .slice B3 t'.ns.length d3]) (by simp [results, Try.results53, go_sem, r0, r1, r2]) rfl ?_
          exact HD3.out.finish hs5.out (by omega)
      · -- a name more
        have hn25 := hs.out.ns
        have k1 := Lib.hid (show t'.ns.length + 1 ≤ maxLen by unfold maxLen; omega)
        have k2 := Lib.hid (show (t'.ns.length + 1) * 16 ≤ 140737488355328 by omega)
        go_wp2_with (at_builtin; refine wpList_app _ rfl (.tmp 66) (.tmp 67) _ rfl w.heap.size 9 is0 _ 16 Try.underlying23 his hzs0 hzs1 hzs2 rfl (.slice B3 t'.ns.length d3) t'.ns.length (t'.ns.map Value.string) rfl (HD2.out.alloc _).o3 (some ⟨_, 0, none⟩) 1 1 [.string _] rfl (Src.one (blk_new_at _ rfl) rfl) k1.out k2.out (by have := HD2.out.gr.size; simp; omega) ?_; intro v3 w3 ho3 hg3 hat3; obtain ⟨u8, hu8, hul8, hus8⟩ := own_snoc2 (m := 16) ho3 (fun y hy => hs.out.size y (List.mem_append.2 (.inr hy))) (by decide); obtain ⟨B8, d8, rfl, -⟩ := hu8.strs; obtain ⟨z03, z13, z23, f03, f13, f23⟩ := blk3 ((HD2.out.alloc _).mid3 hg3); have HD3 := (HD2.out.alloc _).app3 hu8 hg3 hat3; obtain ⟨r03, r13, r23, e03, e13, e23⟩ := blk3 HD3.res; have hsz3 := hg3.size; replace hul8 := Lib.hid hul8; replace hus8 := Lib.hid hus8; replace HD3 := Lib.hid HD3; clear ho3 hu8 hg3 hat3)
        have hs5 : SmallT 40 ⟨t'.us, t'.bs, u8⟩ := ⟨by have := hs.out.us; show t'.us.length ≤ 40; omega, by have := hs.out.bs; show t'.bs.length ≤ 40; omega, by show u8.length ≤ 40; rw [hul8.out]; omega, hs.out.fit, fun x hx => by
          rcases List.mem_append.1 hx with h | h
          · exact hs.out.size x (List.mem_append.2 (.inl h))
          · exact hus8.out x h⟩
        refine bodyPost_ret (v := .agg #[.slice B1 t'.us.length d1, .slice B2 t'.bs.length d2, .slice B8 u8.length d8]) (by simp [results, Try.results53, go_sem, r03, r13, r23]) rfl ?_
        exact HD3.out.finish hs5 (by omega)
end Go.Proofs.Ytjnlpknjdclalaa
