/-
  FnNextName holds for every input: the drawn tongue and words are answered by NextName as by its model; what it answers is read as one more than the words are. No condition.
-/
import Derived.Test.YteemgkabhkdeaaaRows
import Derived.Test.YteemgkabhkdeaaaDrawSf
import Derived.Test.YteemgkabhkdeaaaP4f
import Derived.Test.YteemgkabhkdeaaaSame
namespace Go.Proofs.Yteemgkabhkdeaaa.fnNextName
open Go.ChangeShapes Go.WideShapes Go.ChangeAt Go.RowKit
open Go.ChangeMaps (open_string shut_string)

theorem own : ownKnob Try.prog.godebug = none := by kernel_rfl
theorem laidOut : laidOutB Try.prog = true := by kernel_rfl

theorem next_empty {t : Tg} {l : List ByteArray} (h : nextB t l = false) : nextV t l = [] := by
  cases hr : readB t l
  · exact (next_no hr).1
  · obtain ⟨e1, e2⟩ := next_yes hr
    rw [e2] at h
    rw [e1]
    unfold namedB at h
    have := of_decide_eq_false h
    exact List.eq_nil_of_length_eq_zero (by omega)
theorem next_facts {t : Tg} {l : List ByteArray} (h : nextB t l = true) : readB t l = true ∧ readB t (nextV t l) = true ∧ readV t (nextV t l) = readV t l + 1 := by
  cases hr : readB t l
  · rw [(next_no hr).2] at h; cases h
  · obtain ⟨e1, e2⟩ := next_yes hr
    rw [e2] at h
    obtain ⟨r1, r2⟩ := read_name h (nameOf_short t _)
    rw [e1]
    exact ⟨rfl, r1, r2⟩
theorem next_size (t : Tg) (l : List ByteArray) : ∀ x ∈ nextV t l, x.size ≤ 1048576 := by
  intro x hx
  unfold nextV at hx
  split at hx
  · have := (nameOf_size t _ x hx).2; omega
  · cases hx

set_option maxRecDepth 100000 in
set_option maxHeartbeats 8000000 in
theorem walk (w : World) (A : Option Addr) (n c : Nat) (xs : List Int) (h : Ints w .u8 A n c xs) (hwf : ∀ x ∈ xs, (Lit.int .u8 x).wf = true) (hc : c ≤ maxLen) :
    Calls Try.prog 4 #[.slice A n c] w fun e w' => e = .returned (.bool true) ∧ Below w.heap.size w w' := by
  have hn : n ≤ 9223372036854775807 := by have := h.le; unfold maxLen at hc; omega
  by_cases hl : n ≤ 1048576
  · have HD := Lib.hid (drawNextName_any A n c xs w h hl hwf hc)
    clear h hwf hc
    go_enter Try.func4, Try.ntmps4
    go_wp2_with (fail)
    refine HD.out.mono ?_
    rintro e w1 ⟨v, t, u, l, rfl, ho, hou, hsm, hsw, hb⟩
    obtain ⟨A1, c1, A2, c2, A3, c3, rfl⟩ := ho.shape
    obtain ⟨A4, c4, rfl, hls⟩ := hou.strs
    have hf := Lib.hid (hsm.fine (by omega))
    have hba := (Below.refl w1.heap.size w1).alloc (Nat.le_refl _) (.cells #[.slice A1 t.us.length c1, .slice A2 t.bs.length c2, .slice A3 t.ns.length c3] 26)
    have S := Lib.hid (⟨hb.trans (hba.mono hb.size), Blk.new w1 26 #[.slice A1 t.us.length c1, .slice A2 t.bs.length c2, .slice A3 t.ns.length c3], ho.tng.below hba (Nat.le_refl _)⟩ : LSt w w1.heap.size #[.slice A1 t.us.length c1, .slice A2 t.bs.length c2, .slice A3 t.ns.length c3] t (w1.alloc (.cells #[.slice A1 t.us.length c1, .slice A2 t.bs.length c2, .slice A3 t.ns.length c3] 26)))
    have hL := Lib.hid (hls.below hba (Nat.le_refl _))
    have hl44 := hsw.1
    have hlz := Lib.hid (fun (x : ByteArray) (hx : x ∈ l) => show x.size ≤ 1048576 by have := hsw.2 x hx; omega)
    have hlz' := Lib.hid (fun (x : ByteArray) (hx : x ∈ l) => show x.size ≤ maxLen by have := hsw.2 x hx; unfold maxLen; omega)
    clear ho hou hls hsm hsw hb hba HD
    go_upto_region 4 with (fail)
    generalize w1.alloc (.cells #[.slice A1 t.us.length c1, .slice A2 t.bs.length c2, .slice A3 t.ns.length c3] 26) = W at *
    obtain ⟨z0, z1, z2, -, -, -⟩ := blk3 S.out.hz
    have K1 := Lib.hid (implNextName_any _ t A4 _ c4 l W S.out.ht hf.out hL.out (by omega) hlz.out)
    go_wp2_with (fail)
    refine K1.out.mono ?_
    rintro e w2 ⟨v2, rfl, o2, b2⟩
    obtain ⟨A5, c5, rfl, s5⟩ := o2.strs
    replace S := Lib.hid (S.out.step b2)
    replace hL := Lib.hid (hL.out.below b2 (Nat.le_refl _))
    have K2 := Lib.hid (specNextName_any _ t A4 _ c4 l w2 S.out.ht hf.out hL.out (by omega) hlz'.out)
    have hnl := next_len t l
    clear o2 b2 z0 z1 z2 K1
    obtain ⟨z0, z1, z2, -, -, -⟩ := blk3 S.out.hz
    go_wp2_with (fail)
    refine K2.out.mono ?_
    rintro e w3 ⟨v3, rfl, o3, b3⟩
    obtain ⟨A6, c6, rfl, s6⟩ := o3.strs
    replace S := Lib.hid (S.out.step b3)
    replace hL := Lib.hid (hL.out.below b3 (Nat.le_refl _))
    replace s5 := s5.below b3 (Nat.le_refl _)
    have KX := sameTexts_any A5 A6 _ c5 _ c6 _ _ w3 s5 s6 (by omega) (by omega)
    rw [decide_eq_true rfl] at KX
    replace KX := Lib.hid KX
    replace s5 := Lib.hid s5
    clear o3 s6 b3 z0 z1 z2 K2
    have hne := fun h => next_empty (t := t) (l := l) h
    have hnf := fun h => next_facts (t := t) (l := l) h
    have hnz := next_size t l
    generalize nextV t l = nx at *
    generalize nextB t l = nb at *
    replace hne := Lib.hid hne
    replace hnf := Lib.hid hnf
    replace hnz := Lib.hid hnz
    go_wp2_with (fail)
    refine KX.out.mono ?_
    rintro e w4 ⟨rfl, m4, rfl⟩
    have b4 := below_drewN (Below.refl w3.heap.size w3) m4
    replace S := Lib.hid (S.out.step b4)
    replace hL := Lib.hid (hL.out.below b4 (Nat.le_refl _))
    replace s5 := Lib.hid (s5.out.below b4 (Nat.le_refl _))
    clear b4 KX
    generalize w3.drewN m4 = W4 at *
    obtain ⟨z0, z1, z2, -, -, -⟩ := blk3 S.out.hz
    cases nb
    · have he := hne.out rfl
      subst he
      have hl0 : (([] : List ByteArray).length : Int) = 0 := rfl
      go_wp2_with (fail)
      refine (alive_any W4).mono ?_
      rintro e w9 ⟨rfl, b9⟩
      have hB9 := Lib.hid (S.out.low.trans (b9.mono S.out.low.size))
      clear b9
      go_wp2
      go_ret
      exact ⟨rfl, hB9.out⟩
    · obtain ⟨f1, f2, f3⟩ := hnf.out rfl
      have hrb := readV_bd t l
      have KR := implReadName_any _ t A4 _ c4 l W4 S.out.ht hf.out hL.out (by omega) hlz.out
      have KQ := fun W (hb : Below W4.heap.size W4 W) => implReadName_any _ t A5 _ c5 nx W (S.out.ht.below hb (Nat.le_refl _)) hf.out (s5.out.below hb (Nat.le_refl _)) (by omega) hnz.out
      rw [f1] at KR
      rw [f2, f3] at KQ
      generalize readV t l = rv at *
      replace KR := Lib.hid KR
      replace KQ := Lib.hid KQ
      clear f1 f2 f3
      go_wp2_with (fail)
      refine KR.out.mono ?_
      rintro e w5 ⟨rfl, b5⟩
      have KQ5 := Lib.hid (KQ.out _ b5)
      replace S := Lib.hid (S.out.step b5)
      clear b5 z0 z1 z2 KR KQ
      obtain ⟨z0, z1, z2, -, -, -⟩ := blk3 S.out.hz
      go_wp2_with (fail)
      refine KQ5.out.mono ?_
      rintro e w6 ⟨rfl, b6⟩
      have hB6 := Lib.hid (S.out.low.trans (b6.mono S.out.low.size))
      clear b6 KQ5
      go_wp2
      go_ret
      exact ⟨rfl, hB6.out⟩
  · have t1 : (1048576 : Int) < (n : Int) := by omega
    go_enter Try.func4, Try.ntmps4
    go_wp2
    go_ret
    exact ⟨rfl, Below.refl _ _⟩

set_option maxRecDepth 100000 in
theorem lifted (os : Os) (started : os.Started) (H : Type) (enc : TypeId × Value → H) :
    ReturnsInHanded {} Try.checked os 4 .any (Rows.fnNextNameSpec.pre6 enc Try.prog Try.f4 Rows.fnNextNameRow.domain false) (Rows.fnNextNameSpec.post enc Try.prog Try.f4 false true false false) := by
  refine returnsInHanded_of_change (C := Try.checked) own started (by kernel_rfl) Try.func4
    (ChangeSpec.witness6 (enc := enc) (C := Try.checked) false ⟨#[], #[.slice none 0 0], []⟩ 8 (by kernel_rfl) (by kernel_rfl) (by kernel_rfl) (by kernel_rfl)) ?_
  intro W base args ds gs before hval0 hW hcnd _
  have hval : ∀ (j : Nat) t v, Try.f4.params[j]? = some t → args[j]? = some v → Value.okWide Try.prog W .any base t v := hval0
  have hW' := hW
  obtain ⟨p, q, hA0, hV, rfl, hfz, hnd⟩ := hW
  have hA : DataW.TrodAll enc Try.prog W 0 (fun _ => true) true Try.f4.params.toList args.toList ds p := hA0
  rw [Try.params4] at hA hval
  obtain ⟨v0, vs0, d0, ds0, p0, q0, hargs, rfl, rfl, h0, r0⟩ := trodAll_cons hA
  obtain ⟨rfl, rfl, rfl⟩ := trodAll_nil r0
  obtain rfl : args = #[v0] := by cases args; simp_all
  obtain ⟨rfl, rfl⟩ := trodVars_none hV
  obtain ⟨a0, len0, cap0, rfl⟩ := okWide_slice Try.underlying22 (hval 0 22 v0 rfl rfl)
  have k0 := h0
  have lt0 : ∀ x ∈ p0, x.block < W.heap.size := by obtain ⟨m, hm⟩ := k0; exact DataW.trod_lt m _ _ _ hm
  obtain ⟨z0, s0, w0, m0⟩ : ∃ zs, Ints W .u8 a0 len0 cap0 zs ∧ (∀ n ∈ zs, (Lit.int .u8 n).wf = true) ∧ cap0 ≤ maxLen := by
    obtain ⟨fuel, hf⟩ := h0
    rcases open_ints Try.underlying22 Try.underlying5 (by kernel_rfl) hf with ⟨hcs, _⟩ | ⟨x, l, c, zs, hcs, _, hl, hm, hz, _, hcell, hwz⟩
    · simp [Value.cells] at hcs
      obtain ⟨rfl, rfl, rfl⟩ := hcs
      exact ⟨[], Ints.none_, by simp, Nat.zero_le _⟩
    · simp [Value.cells] at hcs
      obtain ⟨rfl, rfl, rfl⟩ := hcs
      exact ⟨_, Ints.of_row hl (by simpa using hz) hcell, fun n hn => hwz n (List.mem_of_mem_take hn), hm⟩
  clear hA0 hval0
  refine (walk W a0 len0 cap0 z0 s0 w0 m0).mono fun e W' ⟨he, bel⟩ => ?_
  subst he
  exact ⟨_, rfl, _, _, _, [], _, [], hW', trodAll_mk1 (shut_bool Try.underlying4 _), (trodAll_cons_mk (Below.trod laidOut (by kernel_rfl) (of_decide_eq_true (by kernel_rfl)) k0 bel lt0) trodAll_mk0), rfl, bel.frame _, fun h => by cases h⟩

theorem over : Rows.fnNextNameRow.holds Try.pinned (OpenSpec.ofChange Rows.fnNextNameSpec) :=
  OpenClaim.holds_of_wide 4 Try.f4 rfl rfl rfl rfl rfl rfl rfl ⟨rfl, rfl, rfl, rfl, rfl⟩ rfl rfl rfl rfl rfl (by kernel_rfl) Try.func4 (by kernel_rfl)
    (of_decide_eq_true (by kernel_rfl)) (by unfold Func.isWrapper; first | (rw [if_pos (by decide +kernel)]; kernel_rfl) | (rw [if_neg (by decide +kernel)]; exact ⟨rfl, rfl⟩))
    (fun os started H enc _ => lifted os started H enc)
theorem proved : Rows.FnNextNameSaid := over
end Go.Proofs.Yteemgkabhkdeaaa.fnNextName
