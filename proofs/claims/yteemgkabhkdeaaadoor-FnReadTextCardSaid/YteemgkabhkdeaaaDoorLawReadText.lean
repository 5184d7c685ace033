/-
  FnReadText holds for every input: the drawn tongue and text are answered by ReadText as by its model; the text of the number is the text, and with a space behind it the text is refused. No condition but that the two listed tables of the library are as its text lays them (the card ties them).
-/
import Derived.Test.YteemgkabhkdeaaaDoorCards
import Derived.Test.YteemgkabhkdeaaaDoorTie
import Derived.Test.YteemgkabhkdeaaaDoorDrawSg
import Derived.Test.YteemgkabhkdeaaaDoorP4h
import Derived.Lay
import Derived.LaidMore
import Derived.SevenTiedAt
import Derived.Stop.Joined
namespace Go.Proofs.YteemgkabhkdeaaaDoor.fnReadText
open Go.ChangeShapes Go.WideShapes Go.ChangeAt Go.RowKit
open Go.ChangeMaps (open_string shut_string)

theorem own : ownKnob Tryd.prog.godebug = none := by kernel_rfl
theorem laidOut : laidOutB Tryd.prog = true := by kernel_rfl

theorem cutR_snoc (l : List UInt8) : cutR (l ++ [32]) = cutR l ++ [[]] := by
  induction l with
  | nil => rfl
  | cons c r ih =>
    rw [List.cons_append, cutR, cutR, ih]
    obtain ⟨q, qs, e⟩ := cutR_ne r
    split
    · rfl
    · rw [e]; rfl
/-- With a space behind it no text is read. -/
theorem no_space (t : Tg) (s : ByteArray) : readTB t (s ++ ⟨#[32]⟩) = false := by
  cases h : readTB t (s ++ ⟨#[32]⟩)
  · rfl
  · exfalso
    rw [(read_text t _).1] at h
    have hn := (read_yes h).2.2.1
    have hd := cutL_data (s ++ ⟨#[32]⟩)
    have he : (s ++ ⟨#[32]⟩ : ByteArray).data.toList = s.data.toList ++ [32] := by simp [ByteArray.data_append]
    rw [he, cutR_snoc] at hd
    have hm : ([] : List UInt8) ∈ (cutL (s ++ ⟨#[32]⟩)).map (·.data.toList) := by rw [hd]; simp
    obtain ⟨x, hx, hx0⟩ := List.mem_map.1 hm
    rw [← hn] at hx
    have h1 := (nameOf_size t _ x hx).1
    have h2 : x.size = 0 := by rw [show x.size = x.data.toList.length by simp, hx0]; rfl
    omega
theorem text_back {t : Tg} {s : ByteArray} (h : readTB t s = true) : textOf t (readTV t s) = s ∧ -1 ≤ readTV t s ∧ readTV t s ≤ 99999 := by
  obtain ⟨e1, e2⟩ := read_text t s
  have hb := readV_bd t (cutL s)
  rw [e2]
  refine ⟨?_, hb⟩
  have h0 := h
  unfold readTB at h0
  rw [Bool.and_eq_true, decide_eq_true_eq] at h0
  exact h0.2

set_option maxRecDepth 100000 in
set_option maxHeartbeats 8000000 in
theorem walk (w : World) (A : Option Addr) (n c : Nat) (xs : List Int) (h : Ints w .u8 A n c xs) (hwf : ∀ x ∈ xs, (Lit.int .u8 x).wf = true) (hc : c ≤ maxLen) :
    Calls Tryd.prog 3 #[.slice A n c] w fun e w' => e = .returned (.bool true) ∧ Below w.heap.size w w' := by
  have hn : n ≤ 9223372036854775807 := by have := h.le; unfold maxLen at hc; omega
  by_cases hl : n ≤ 1048576
  · have HD := Lib.hid (drawReadText_any A n c xs w h hl hwf hc)
    clear h hwf hc
    go_enter Tryd.func3, Tryd.ntmps3
    go_wp2_with (fail)
    refine HD.out.mono ?_
    rintro e w1 ⟨v, t, s, rfl, ho, hsm, hsz, hb⟩
    obtain ⟨A1, c1, A2, c2, A3, c3, rfl⟩ := ho.shape
    have hf := Lib.hid (hsm.fine (by omega))
    have hba := (Below.refl w1.heap.size w1).alloc (Nat.le_refl _) (.cells #[.slice A1 t.us.length c1, .slice A2 t.bs.length c2, .slice A3 t.ns.length c3] 26)
    have S := Lib.hid (⟨hb.trans (hba.mono hb.size), Blk.new w1 26 #[.slice A1 t.us.length c1, .slice A2 t.bs.length c2, .slice A3 t.ns.length c3], ho.tng.below hba (Nat.le_refl _)⟩ : LSt w w1.heap.size #[.slice A1 t.us.length c1, .slice A2 t.bs.length c2, .slice A3 t.ns.length c3] t (w1.alloc (.cells #[.slice A1 t.us.length c1, .slice A2 t.bs.length c2, .slice A3 t.ns.length c3] 26)))
    clear ho hsm hb hba HD
    go_upto_region 4 with (fail)
    generalize w1.alloc (.cells #[.slice A1 t.us.length c1, .slice A2 t.bs.length c2, .slice A3 t.ns.length c3] 26) = W at *
    obtain ⟨z0, z1, z2, -, -, -⟩ := blk3 S.out.hz
    have K1 := Lib.hid (implReadText_any _ t s W S.out.ht hf.out (by omega))
    go_wp2_with (fail)
    refine K1.out.mono ?_
    rintro e w2 ⟨rfl, b2⟩
    replace S := Lib.hid (S.out.step b2)
    have K2 := Lib.hid (specReadText_any _ t s w2 S.out.ht hf.out (by omega))
    clear b2 z0 z1 z2 K1
    obtain ⟨z0, z1, z2, -, -, -⟩ := blk3 S.out.hz
    go_wp2_with (fail)
    refine K2.out.mono ?_
    rintro e w3 ⟨rfl, b3⟩
    replace S := Lib.hid (S.out.step b3)
    clear b3 z0 z1 z2 K2
    obtain ⟨z0, z1, z2, -, -, -⟩ := blk3 S.out.hz
    have y1 : (⟨#[32]⟩ : ByteArray).size = 1 := rfl
    have y2 : (s ++ ⟨#[32]⟩).size = s.size + 1 := by rw [ByteArray.size_append, y1]
    have y3 : ¬ (9223372036854775807 < s.size + 1) := by omega
    have hns := no_space t s
    have hbk := fun h => text_back (t := t) (s := s) h
    have hno := fun h => readT_no (t := t) (s := s) h
    have K3 := fun W (hb : Below w3.heap.size w3 W) => implReadText_any _ t (s ++ ⟨#[32]⟩) W (S.out.ht.below hb (Nat.le_refl _)) hf.out (by omega)
    rw [hns] at K3
    generalize readTV t (s ++ ⟨#[32]⟩) = rx at *
    generalize readTV t s = rv at *
    generalize readTB t s = rb at *
    replace hbk := Lib.hid hbk
    replace hno := Lib.hid hno
    replace K3 := Lib.hid K3
    clear hns
    cases rb
    · have hv := hno.out rfl
      subst hv
      go_wp2_with (fail)
      refine (alive_any w3).mono ?_
      rintro e w9 ⟨rfl, b9⟩
      have hB9 := Lib.hid (S.out.low.trans (b9.mono S.out.low.size))
      clear b9
      go_wp2
      go_ret
      exact ⟨rfl, hB9.out⟩
    · obtain ⟨t1, t2, t3⟩ := hbk.out rfl
      have K4 := fun W (hb : Below w3.heap.size w3 W) => implTextOf_any _ t rv W (S.out.ht.below hb (Nat.le_refl _)) hf.out (by omega)
      rw [t1] at K4
      have K5 := Lib.hid (K3.out w3 (Below.refl _ _))
      replace K4 := Lib.hid K4
      clear t1 hbk hno K3
      go_wp2_with (fail)
      refine K5.out.mono ?_
      rintro e w5 ⟨rfl, b5⟩
      have K6 := Lib.hid (K4.out _ b5)
      replace S := Lib.hid (S.out.step b5)
      clear b5 z0 z1 z2 K5 K4
      obtain ⟨z0, z1, z2, -, -, -⟩ := blk3 S.out.hz
      go_wp2_with (fail)
      refine K6.out.mono ?_
      rintro e w6 ⟨rfl, b6⟩
      have hB6 := Lib.hid (S.out.low.trans (b6.mono S.out.low.size))
      have hq : (s.toList == s.toList) = true := by simp
      clear b6 K6
      go_wp2
      go_ret
      exact ⟨rfl, hB6.out⟩
  · have t1 : (1048576 : Int) < (n : Int) := by omega
    go_enter Tryd.func3, Tryd.ntmps3
    go_wp2
    go_ret
    exact ⟨rfl, Below.refl _ _⟩

set_option maxRecDepth 100000 in
theorem lifted (os : Os) (started : os.Started) (H : Type) (enc : TypeId × Value → H) :
    ReturnsInHanded {} Tryd.checked os 3 .any (fun w args => (Rows.fnReadTextSpec.pre enc Tryd.prog Tryd.f3 Rows.fnReadTextRow.domain false w args ∧ laidMetH Tryd.prog Rows.fnReadTextRow.laid w) ∧ sizedMet enc Tryd.prog Tryd.f3 (OpenSpec.ofChange Rows.fnReadTextSpec) false w args)
      (Rows.fnReadTextSpec.post enc Tryd.prog Tryd.f3 false true false false) := by
  refine returnsInHanded_of_change_and (C := Tryd.checked) (X := fun w _ => laidMetH Tryd.prog Rows.fnReadTextRow.laid w) (fun _ _ _ hh h => h.of_heap hh) own started (by kernel_rfl) Tryd.func3
    (ChangeSpec.witness_shaped (enc := enc) (C := Tryd.checked) (os := os) (X := fun w _ => laidMetH Tryd.prog Rows.fnReadTextRow.laid w) false (World.laidAll Tryd.prog os Rows.fnReadTextRow.laid) #[.slice none 0 0] 8 (World.laidAll_os _ _ _)
      (World.shaped_of_ZipB (by kernel_rfl) (by kernel_rfl)) (by kernel_rfl) (by kernel_rfl) (by kernel_rfl)
      (by rw [MakeChecks.laidMetH_plain _ _ _ (by kernel_rfl)]; exact laidMet_laidAll _ (by kernel_rfl) (by kernel_rfl))) ?_
  intro W base args ds gs before hval0 hW _ _ _ _
  have hval : ∀ (j : Nat) t v, Tryd.f3.params[j]? = some t → args[j]? = some v → Value.okWide Tryd.prog W .any base t v := hval0
  have hW' := hW
  obtain ⟨p, q, hA0, hV, rfl, hfz, hnd⟩ := hW
  have hA : DataW.TrodAll enc Tryd.prog W 0 (fun _ => true) true Tryd.f3.params.toList args.toList ds p := hA0
  rw [Tryd.params3] at hA hval
  obtain ⟨v0, vs0, d0, ds0, p0, q0, hargs, rfl, rfl, h0, r0⟩ := trodAll_cons hA
  obtain ⟨rfl, rfl, rfl⟩ := trodAll_nil r0
  obtain rfl : args = #[v0] := by cases args; simp_all
  obtain ⟨rfl, rfl⟩ := trodVars_none hV
  obtain ⟨a0, len0, cap0, rfl⟩ := okWide_slice Tryd.underlying22 (hval 0 22 v0 rfl rfl)
  have k0 := h0
  have lt0 : ∀ x ∈ p0, x.block < W.heap.size := by obtain ⟨m, hm⟩ := k0; exact DataW.trod_lt m _ _ _ hm
  obtain ⟨z0, s0, w0, m0⟩ : ∃ zs, Ints W .u8 a0 len0 cap0 zs ∧ (∀ n ∈ zs, (Lit.int .u8 n).wf = true) ∧ cap0 ≤ maxLen := by
    obtain ⟨fuel, hf⟩ := h0
    rcases open_ints Tryd.underlying22 Tryd.underlying5 (by kernel_rfl) hf with ⟨hcs, _⟩ | ⟨x, l, c, zs, hcs, _, hl, hm, hz, _, hcell, hwz⟩
    · simp [Value.cells] at hcs
      obtain ⟨rfl, rfl, rfl⟩ := hcs
      exact ⟨[], Ints.none_, by simp, Nat.zero_le _⟩
    · simp [Value.cells] at hcs
      obtain ⟨rfl, rfl, rfl⟩ := hcs
      exact ⟨_, Ints.of_row hl (by simpa using hz) hcell, fun n hn => hwz n (List.mem_of_mem_take hn), hm⟩
  clear hA0 hval0
  refine (walk W a0 len0 cap0 z0 s0 w0 m0).mono fun e W' ⟨he, bel⟩ => ?_
  subst he
  exact ⟨_, rfl, _, _, _, [], _, [], hW', trodAll_mk1 (shut_bool Tryd.underlying4 _), (trodAll_cons_mk (Below.trod laidOut (by kernel_rfl) (of_decide_eq_true (by kernel_rfl)) k0 bel lt0) trodAll_mk0), rfl, bel.frame _, fun h => by cases h⟩

theorem over : Rows.fnReadTextRow.holds Tryd.pinned (OpenSpec.ofChange Rows.fnReadTextSpec) :=
  OpenClaim.holds_of_wide 3 Tryd.f3 rfl rfl rfl rfl rfl rfl rfl ⟨rfl, rfl, rfl, rfl, rfl⟩ rfl rfl rfl rfl rfl (by kernel_rfl) Tryd.func3 (by kernel_rfl)
    (of_decide_eq_true (by kernel_rfl)) (by unfold Func.isWrapper; first | (rw [if_pos (by decide +kernel)]; kernel_rfl) | (rw [if_neg (by decide +kernel)]; exact ⟨rfl, rfl⟩))
    (fun os started H enc _ => lifted os started H enc)
theorem proved : Rows.FnReadTextCardSaid :=
  Claim7.holds_tied_plain_at .later [] [.data, .pinned] true (true, "59a4c4381330beec970c301a0e423a8398080da0c68800d6273fbec4feeac686") false over (fun _ h => by cases h) (by kernel_rfl) (fun _ h => by cases h) fnReadText_row_tie rfl ⟨rfl, rfl⟩ (by kernel_rfl) rfl
    (fun f fn hf hfn => by
      obtain rfl : f = 3 := Option.some.inj ((show Tryd.prog.funcNamed "loop.example/numberwords/laws.FnReadText" = some 3 by kernel_rfl).symm.trans hf) |>.symm
      obtain rfl : fn = Tryd.f3 := (Option.some.inj (Tryd.func3.symm.trans hfn)).symm
      exact ⟨by kernel_rfl, fun j t ht => by
        rw [Tryd.params3] at ht
        have hm : t ∈ [22] := by simpa using Array.mem_of_getElem? ht
        have hall : ([22].all fun u => !Tryd.prog.wantsStandIn u) = true := by kernel_rfl
        exact (show Tryd.prog.wantsStandIn t = false by simpa using List.all_eq_true.1 hall t hm)⟩)
    (by kernel_rfl)
end Go.Proofs.YteemgkabhkdeaaaDoor.fnReadText
