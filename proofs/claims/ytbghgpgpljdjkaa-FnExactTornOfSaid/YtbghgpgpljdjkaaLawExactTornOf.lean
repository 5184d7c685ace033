/-
  FnExactTornOf holds for every list of texts and every text: TornOf answers as its model, leaves its argument unmodified, and returns memory of its own. No condition.
-/
import Derived.Test.YtbghgpgpljdjkaaRows
import Derived.Test.YtbghgpgpljdjkaaGT
import Derived.Test.YtbghgpgpljdjkaaGN
import Derived.Test.YtbghgpgpljdjkaaQ5
import Derived.Test.YtbghgpgpljdjkaaZ6
import Derived.Test.YtbghgpgpljdjkaaMathJ
namespace Go.Proofs.Ytbghgpgpljdjkaa.fnExactTornOf
open Go.ChangeShapes Go.WideShapes Go.ChangeAt Go.RowKit
open Go.ChangeMaps (open_string shut_string)

theorem own : ownKnob Try.prog.godebug = none := by kernel_rfl
theorem laidOut : laidOutB Try.prog = true := by kernel_rfl

set_option maxRecDepth 100000 in
set_option maxHeartbeats 4000000 in
theorem walk (w : World) (Al : Option Addr) (cl : Nat) (l : List ByteArray) (hl : Strs w Al l.length cl l) (hcl : cl ≤ maxLen) (hlz : ∀ x ∈ l, x.size ≤ maxLen) (a1 : ByteArray) (_hs1 : a1.size ≤ maxLen) :
    Calls Try.prog 12 #[.slice Al l.length cl, .string a1] w fun e w' => e = .returned (.bool true) ∧ Below w.heap.size w w' := by
  have HL := Lib.hid (fun W (hb : Below w.heap.size w W) => hl.below hb (Nat.le_refl _))
  have hZ := Lib.hid (szStringS_any Al l.length cl l 1048576 w hl hcl hlz (by omega) (by omega))
  clear hl hcl hlz
  by_cases hz : a1.size ≤ 1048576
  · have hz' : ¬ (1048576 : Int) < (a1.size : Int) := by omega
    go_enter Try.func12, Try.ntmps12
    go_wp2_with (fail)
    refine hZ.out.mono ?_
    rintro e _ ⟨r, rfl, hr, rfl⟩
    clear hZ
    rcases hr with rfl | ⟨q0, q1, q2, q3⟩
    · go_wp2
      go_ret
      exact ⟨rfl, Below.refl _ _⟩
    · have hq2 : ¬ r < 0 := by omega
      have hll : l.length ≤ 1048576 := by omega
      have hlz : ∀ x ∈ l, x.size ≤ 1048576 := fun x hx => by have := q3 x hx; omega
      replace hlz := Lib.hid hlz
      have hC2 := Lib.hid (toStringS_any Al l.length cl l w (HL.out w (Below.refl _ _)) hll)
      clear q3
      go_wp2_with (fail)
      refine hC2.out.mono ?_
      rintro e w2 ⟨rfl, p2, b2⟩
      have s2 : Strs w2 (some ⟨w.heap.size, 0, none⟩) l.length l.length l := by
        obtain ⟨_, _, e, s⟩ := strs_of_own p2
        cases e
        exact s
      have hS := Lib.hid (specTornOf_any _ l.length l.length l a1 w2 s2 (by omega) hlz.out hz)
      replace b2 := Lib.hid b2
      clear p2 s2 hC2
      go_wp2_with (fail)
      refine hS.out.mono ?_
      rintro e w3 ⟨vs, rfl, os3, b3⟩
      obtain ⟨As, cs, rfl, hs3⟩ := os3.strs
      have hB3 := b2.out.trans (b3.mono b2.out.size)
      have hwl := torn_len l a1
      have hwl1 : (tornOf l a1).length ≤ 1048576 := by omega
      clear hwl
      have hC4 := Lib.hid (toStringS_any Al l.length cl l w3 (HL.out w3 hB3) hll)
      generalize hws : tornOf l a1 = ws at *
      generalize hnb : tornB l a1 = nb at *
      have hne : (nb != nb) = false := by simp
      replace hnb := Lib.hid hnb
      replace hws := Lib.hid hws
      replace hs3 := Lib.hid hs3
      have hB3s := Lib.hid hB3.size
      replace hB3 := Lib.hid hB3
      clear b3 b2 hS os3
      go_wp2_with (fail)
      refine hC4.out.mono ?_
      rintro e w4 ⟨rfl, p4, b4⟩
      have s4 : Strs w4 (some ⟨w3.heap.size, 0, none⟩) l.length l.length l := by
        obtain ⟨_, _, e, s⟩ := strs_of_own p4
        cases e
        exact s
      have h34 : w3.heap.size < w4.heap.size := (World.ownsRow.lt p4 _ rfl).2
      have hI := implTornOf_any _ l.length l.length l a1 w4 s4 (by omega) hlz.out hz
      rw [hws.out, hnb.out] at hI
      have hB4 := Lib.hid (hB3.out.trans (b4.mono hB3.out.size))
      have hD4 := Lib.hid b4
      replace hI := Lib.hid hI
      replace p4 := Lib.hid p4
      replace h34 := Lib.hid h34
      clear b4 hC4 hB3 s4
      go_wp2_with (fail)
      refine hI.out.mono ?_
      rintro e w5 ⟨vg, rfl, og5, b5⟩
      obtain ⟨Ag, cg, rfl, hg5⟩ := og5.strs
      have hB5 := hB4.out.trans (b5.mono hB4.out.size)
      have hD5 := hD4.out.trans (b5.mono hD4.out.size)
      have p5 := Lib.hid (own_below p4.out b5 (Nat.le_refl _))
      have hE0 := eqStringS_any Ag As _ cg _ cs ws ws w5 hg5 (hs3.out.below hD5 (Nat.le_refl _)) (by omega) (by omega)
      rw [decide_eq_true rfl] at hE0
      replace hE0 := Lib.hid hE0
      replace og5 := Lib.hid og5
      replace hB5 := Lib.hid hB5
      replace hD5 := Lib.hid hD5
      clear hg5 b5 hB4 hD4 p4 hI
      go_wp2_with (fail)
      refine hE0.out.mono ?_
      rintro e _ ⟨rfl, m0, rfl⟩
      have hd := below_drewN (Below.refl w5.heap.size w5) m0
      have hB6 := hB5.out.trans (hd.mono hB5.out.size)
      have hD6 := Lib.hid (hD5.out.trans (hd.mono hD5.out.size))
      have p6 := Lib.hid (own_below p5.out hd (Nat.le_refl _))
      have og6 := Lib.hid (og5.out.below hd (Nat.le_refl _))
      clear hE0 hd og5 p5 hB5 hD5
      generalize w5.drewN m0 = w6 at *
      have hC6 := Lib.hid (toStringS_any Al l.length cl l w6 (HL.out _ hB6) hll)
      replace hB6 := Lib.hid hB6
      go_wp2_with (fail)
      refine hC6.out.mono ?_
      rintro e wb ⟨rfl, pb, bb⟩
      have p1 := own_below p6.out bb (Nat.le_refl _)
      obtain ⟨_, _, e1, s1⟩ := strs_of_own p1
      cases e1
      obtain ⟨_, _, e2, sb⟩ := strs_of_own pb
      cases e2
      have hEb := eqStringS_any _ _ l.length l.length l.length l.length l l wb s1 sb (by omega) (by omega)
      rw [decide_eq_true rfl] at hEb
      replace hEb := Lib.hid hEb
      have hBb := Lib.hid (hB6.out.trans (bb.mono hB6.out.size))
      have hDb := Lib.hid (hD6.out.trans (bb.mono hD6.out.size))
      have ogb := Lib.hid (og6.out.below bb (Nat.le_refl _))
      replace p1 := Lib.hid p1
      clear pb bb sb s1 hC6 hB6 hD6 og6 p6
      go_wp2_with (fail)
      refine hEb.out.mono ?_
      rintro e _ ⟨rfl, mb, rfl⟩
      have hd := below_drewN (Below.refl wb.heap.size wb) mb
      have hBc := Lib.hid (hBb.out.trans (hd.mono hBb.out.size))
      have hDc := Lib.hid (hDb.out.trans (hd.mono hDb.out.size))
      have pc := own_below p1.out hd (Nat.le_refl _)
      have ogc := Lib.hid (ogb.out.below hd (Nat.le_refl _))
      clear hEb hd p1 ogb hBb hDb
      generalize wb.drewN mb = wc at *
      -- the argument's copy is marked
      have hM2 := Lib.hid (markStringS_any _ _ l.length l 1 wc pc hll (by omega))
      have hgb : ∀ k, (Value.slice Ag ws.length cg).ownBlock = some k → w4.heap.size ≤ k := fun k hk => (World.ownsRow.lt ogc.out k hk).1
      replace hgb := Lib.hid hgb
      replace pc := Lib.hid pc
      go_wp2_with (fail)
      refine hM2.out.mono ?_
      rintro e we ⟨rfl, -, ge⟩
      have oge : we.ownsRow _ 9 1 (.slice Ag ws.length cg) ws.length (ws.map Value.string) := own_apart ogc.out pc.out ge (fun k hk => by
        have := hgb.out k hk
        have := h34.out
        simp [Value.ownBlock]
        omega)
      have hwq := hBc.out
      have hq34 := h34.out
      have hDe : Below w3.heap.size w3 we := Below.grown hDc.out ge hDc.out.size (fun k hk => by simp [Value.ownBlock] at hk; omega)
      have hw3 : w.heap.size ≤ w3.heap.size := hB3s.out
      have hBe : Below w.heap.size w we := Below.grown hBc.out ge hBc.out.size (fun k hk => by simp [Value.ownBlock] at hk; omega)
      obtain ⟨_, _, e9, hg9⟩ := strs_of_own oge
      cases e9
      have hE1 := eqStringS_any Ag As _ cg _ cs ws ws we hg9 (hs3.out.below hDe (Nat.le_refl _)) (by omega) (by omega)
      rw [decide_eq_true rfl] at hE1
      have hpos : ¬ (1 + (l.length : Int) < 0) := by omega
      replace hE1 := Lib.hid hE1
      replace oge := Lib.hid oge
      replace hDe := Lib.hid hDe
      replace hBe := Lib.hid hBe
      clear hM2 ge hg9 pc ogc hBc hDc hwq
      go_wp2_with (fail)
      refine hE1.out.mono ?_
      rintro e _ ⟨rfl, m1, rfl⟩
      clear hE1
      have og9' : (we.drewN m1).ownsRow _ 9 1 (.slice Ag ws.length cg) ws.length (ws.map Value.string) := oge.out
      have hM3 := Lib.hid (markStringS_any _ _ _ ws 1 (we.drewN m1) og9' (by omega) (by omega))
      replace og9' := Lib.hid og9'
      go_wp2_with (fail)
      refine hM3.out.mono ?_
      rintro e wf ⟨rfl, ogf, gf⟩
      have hgk : ∀ k, (Value.slice Ag ws.length cg).ownBlock = some k → w3.heap.size ≤ k := fun k hk => by have := hgb.out k hk; omega
      have hDf : Below w3.heap.size w3 wf := Below.grown (below_drewN hDe.out m1) gf hDe.out.size hgk
      have hBf : Below w.heap.size w wf := Below.grown (below_drewN hBe.out m1) gf hBe.out.size (fun k hk => by have := hgk k hk; omega)
      obtain ⟨_, _, ea, hgf⟩ := strs_of_own ogf
      cases ea
      have hH := Lib.hid (heldStringS_any Ag _ cg 1 wf hgf (by omega) (by omega))
      have hwp : ¬ (1 + (ws.length : Int) < 0) := by omega
      have hne1 : ((1 + (ws.length : Int)) != (1 + (ws.length : Int))) = false := by simp
      replace hgf := Lib.hid hgf
      replace hDf := Lib.hid hDf
      replace hBf := Lib.hid hBf
      clear hM3 gf og9' ogf oge hDe hBe
      go_wp2_with (fail)
      refine hH.out.mono ?_
      rintro e wg ⟨rfl, bg⟩
      have hDg := Lib.hid (hDf.out.trans (bg.mono hDf.out.size))
      have hBg := hBf.out.trans (bg.mono hBf.out.size)
      have hgg := Lib.hid (hgf.out.below bg (Nat.le_refl _))
      have hCh := Lib.hid (toStringS_any Al l.length cl l wg (HL.out _ hBg) hll)
      replace hBg := Lib.hid hBg
      clear bg hDf hBf hgf hH
      go_wp2_with (fail)
      refine hCh.out.mono ?_
      rintro e wi ⟨rfl, pi, bi⟩
      have hDi := Lib.hid (hDg.out.trans (bi.mono hDg.out.size))
      have hBi := Lib.hid (hBg.out.trans (bi.mono hBg.out.size))
      have hgi := Lib.hid (hgg.out.below bi (Nat.le_refl _))
      obtain ⟨_, _, ei, si⟩ := strs_of_own pi
      cases ei
      have hW := implTornOf_any _ l.length l.length l a1 wi si (by omega) hlz.out hz
      rw [hws.out, hnb.out] at hW
      replace hW := Lib.hid hW
      clear bi hDg hBg hgg hCh pi si
      go_wp2_with (fail)
      refine hW.out.mono ?_
      rintro e wj ⟨vj, rfl, oj, bj⟩
      obtain ⟨Aj, cj, rfl, hj⟩ := oj.strs
      have hDj := hDi.out.trans (bj.mono hDi.out.size)
      have hBj := Lib.hid (hBi.out.trans (bj.mono hBi.out.size))
      have hgj := Lib.hid (hgi.out.below bj (Nat.le_refl _))
      have hE3 := eqStringS_any Aj As _ cj _ cs ws ws wj hj (hs3.out.below hDj (Nat.le_refl _)) (by omega) (by omega)
      rw [decide_eq_true rfl] at hE3
      replace hE3 := Lib.hid hE3
      clear bj hDi hBi hgi hW hj oj hDj
      go_wp2_with (fail)
      refine hE3.out.mono ?_
      rintro e _ ⟨rfl, m3, rfl⟩
      have hH2 := Lib.hid (heldStringS_any Ag _ cg 1 (wj.drewN m3) (hgj.out.drewN m3) (by omega) (by omega))
      go_wp2_with (fail)
      refine hH2.out.mono ?_
      rintro e wk ⟨rfl, bk⟩
      have hBk := Lib.hid ((below_drewN hBj.out m3).trans (bk.mono (below_drewN hBj.out m3).size))
      clear bk hH2 hE3 hBj hgj
      go_wp2
      go_ret
      exact ⟨rfl, hBk.out⟩
  · have hz' : (1048576 : Int) < (a1.size : Int) := by omega
    go_enter Try.func12, Try.ntmps12
    go_wp2
    go_ret
    exact ⟨rfl, Below.refl _ _⟩

set_option maxRecDepth 100000 in
theorem lifted (os : Os) (started : os.Started) (H : Type) (enc : TypeId × Value → H) :
    ReturnsInHanded {} Try.checked os 12 .any (Rows.fnExactTornOfSpec.pre6 enc Try.prog Try.f12 Rows.fnExactTornOfRow.domain false) (Rows.fnExactTornOfSpec.post enc Try.prog Try.f12 false true false false) := by
  refine returnsInHanded_of_change (C := Try.checked) own started (by kernel_rfl) Try.func12
    (ChangeSpec.witness6 (enc := enc) (C := Try.checked) false ⟨#[], #[.slice none 0 0, .string ByteArray.empty], []⟩ 8 (by kernel_rfl) (by kernel_rfl) (by kernel_rfl) (by kernel_rfl)) ?_
  intro W base args ds gs before hval0 hW hcnd _
  have hval : ∀ (j : Nat) t v, Try.f12.params[j]? = some t → args[j]? = some v → Value.okWide Try.prog W .any base t v := hval0
  have hW' := hW
  obtain ⟨p, q, hA0, hV, rfl, hfz, hnd⟩ := hW
  have hA : DataW.TrodAll enc Try.prog W 0 (fun _ => true) true Try.f12.params.toList args.toList ds p := hA0
  rw [Try.params12] at hA hval
  obtain ⟨v0, vs0, d0, ds0, p0, q0, hargs, rfl, rfl, h0, r0⟩ := trodAll_cons hA
  obtain ⟨v1, vs1, d1, ds1, p1, q1, rfl, rfl, rfl, h1, r1⟩ := trodAll_cons r0
  obtain ⟨rfl, rfl, rfl⟩ := trodAll_nil r1
  obtain rfl : args = #[v0, v1] := by cases args; simp_all
  obtain ⟨rfl, rfl⟩ := trodVars_none hV
  have k0 := h0
  have lt0 : ∀ x ∈ p0, x.block < W.heap.size := by obtain ⟨m, hm⟩ := k0; exact DataW.trod_lt m _ _ _ hm
  obtain ⟨b0, n0, e0, rfl⟩ := okWide_slice Try.underlying23 (hval 0 23 v0 rfl rfl)
  obtain ⟨f0, hf0⟩ := h0
  obtain ⟨a0, c0, z0, ee0, s0, m0, w0⟩ := in_strs (v := .slice b0 n0 e0) hf0
  cases ee0
  obtain ⟨a1, rfl, rfl, rfl, w1⟩ := open_string Try.underlying9 (hval 1 9 v1 rfl rfl) h1
  clear hA0 hval0
  refine (walk W _ _ z0 s0 m0 w0 a1 w1).mono fun e W' ⟨he, bel⟩ => ?_
  subst he
  exact ⟨_, rfl, _, _, _, [], _, [], hW', trodAll_mk1 (shut_bool Try.underlying4 _), (trodAll_cons_mk (Below.trod laidOut (by kernel_rfl) (of_decide_eq_true (by kernel_rfl)) k0 bel lt0) (trodAll_cons_mk (shut_string Try.underlying9 w1) trodAll_mk0)), rfl, bel.frame _, fun h => by cases h⟩

theorem over : Rows.fnExactTornOfRow.holds Try.pinned (OpenSpec.ofChange Rows.fnExactTornOfSpec) :=
  OpenClaim.holds_of_wide 12 Try.f12 rfl rfl rfl rfl rfl rfl rfl ⟨rfl, rfl, rfl, rfl, rfl⟩ rfl rfl rfl rfl rfl (by kernel_rfl) Try.func12 (by kernel_rfl)
    (of_decide_eq_true (by kernel_rfl)) (by unfold Func.isWrapper; first | (rw [if_pos (by decide +kernel)]; kernel_rfl) | (rw [if_neg (by decide +kernel)]; exact ⟨rfl, rfl⟩))
    (fun os started H enc _ => lifted os started H enc)
theorem proved : Rows.FnExactTornOfSaid := over
end Go.Proofs.Ytbghgpgpljdjkaa.fnExactTornOf
