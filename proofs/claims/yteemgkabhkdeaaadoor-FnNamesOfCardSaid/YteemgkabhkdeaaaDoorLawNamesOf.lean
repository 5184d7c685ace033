/-
  FnNamesOf holds for every input: the drawn tongue and numbers are answered by NamesOf as by its model; there is one text for each number, no two are equal, and each is read as its number. No condition but that the two listed tables of the library are as its text lays them (the card ties them).
-/
import Derived.Test.YteemgkabhkdeaaaDoorCards
import Derived.Test.YteemgkabhkdeaaaDoorTie
import Derived.Test.YteemgkabhkdeaaaDoorDrawN
import Derived.Test.YteemgkabhkdeaaaDoorMathS
import Derived.Test.YteemgkabhkdeaaaDoorP4h
import Derived.Test.YteemgkabhkdeaaaDoorP4g
import Derived.Test.YteemgkabhkdeaaaDoorSame
import Derived.Lib.QuietBelow
import Derived.Lay
import Derived.LaidMore
import Derived.SevenTiedAt
import Derived.Stop.Joined
namespace Go.Proofs.YteemgkabhkdeaaaDoor
open Go.RowKit

/-- A tongue and two numbers are drawn. -/
def DrawnSpan (w : World) (e : Ending) (w' : World) : Prop := ∃ v t a b, e = .returned (.tuple #[v, .int .i64 a, .int .i64 b]) ∧ OwnTng w' w.heap.size v t ∧ SmallT 40 t ∧ (-200000 ≤ a ∧ a ≤ 200000) ∧ (-200000 ≤ b ∧ b ≤ 201000) ∧ Below w.heap.size w w'

set_option maxRecDepth 100000 in
set_option maxHeartbeats 4000000 in
theorem drawNamesOf_any (A : Option Addr) (n c : Nat) (xs : List Int) (w : World) (h : Ints w .u8 A n c xs) (hn : n ≤ 1048576) (hwf : ∀ x ∈ xs, (Lit.int .u8 x).wf = true) (hc : c ≤ maxLen) :
    Calls Tryd.prog 11 #[.slice A n c] w (DrawnSpan w) := by
  have hB0 : Below w.heap.size w (w.alloc zeroTng) := (Below.refl _ _).alloc (Nat.le_refl _) _
  have HO := Lib.hid (open_any A n c xs (w.alloc zeroTng) (h.below hB0 (Nat.le_refl _)) hn hwf hc)
  have HB0 := Lib.hid hB0
  have HX := Lib.hid (Blk.new w 26 #[.slice none 0 0, .slice none 0 0, .slice none 0 0])
  clear h hwf hc hB0
  go_enter Tryd.func11, Tryd.ntmps11
  go_wp2_with (fail)
  refine HO.out.mono ?_
  rintro e w1 ⟨rfl, hr, hb, -⟩
  have hX1 := Lib.hid (HX.out.below hb (by simp))
  have hB1 := Lib.hid (HB0.out.trans (hb.mono (by simp)))
  have hs1 := hb.size
  simp only [World.size_alloc] at hs1
  rw [World.size_alloc] at hr
  have hl1 := hr.lt
  clear hb HO
  go_wp2_with (fail)
  refine (named_any _ w1 hr).mono ?_
  rintro e w2 ⟨v, t, m, q, rfl, ho, hsm, hm, hr2, hq, hg⟩
  obtain ⟨A1, c1, A2, c2, A3, c3, rfl⟩ := ho.shape
  have hX2 : Blk w2 w.heap.size 26 #[.slice none 0 0, .slice none 0 0, .slice none 0 0] := hX1.out.grown hg (by simp)
  have hB2 := below_read hB1.out hg (by omega) (by omega)
  have hA := (Below.refl w2.heap.size w2).alloc (Nat.le_refl _) (.cells #[.slice A1 t.us.length c1, .slice A2 t.bs.length c2, .slice A3 t.ns.length c3] 26)
  have hs2 := hg.size
  have D : DM w w2.heap.size #[.slice A1 t.us.length c1, .slice A2 t.bs.length c2, .slice A3 t.ns.length c3] (.agg #[.slice A1 t.us.length c1, .slice A2 t.bs.length c2, .slice A3 t.ns.length c3]) t (w2.alloc (.cells #[.slice A1 t.us.length c1, .slice A2 t.bs.length c2, .slice A3 t.ns.length c3] 26)) q :=
    ⟨hr2.below hA (Nat.le_refl _), hX2.below hA hX2.lt, Blk.new w2 26 #[.slice A1 t.us.length c1, .slice A2 t.bs.length c2, .slice A3 t.ns.length c3], (ho.mono (by omega)).below hA (Nat.le_refl _), hB2.trans (hA.mono hB2.size)⟩
  have hz : w.heap.size + 1 < w2.heap.size := by omega
  replace D := Lib.hid D
  replace hsm := Lib.hid hsm
  obtain ⟨m1, m2⟩ := hm
  clear hA hB2 hX2 ho hr2 hg hs1 hs2 hl1 hr hB1 hX1 HX HB0
  go_upto_region 3 with (fail)
  generalize w2.alloc (.cells #[.slice A1 t.us.length c1, .slice A2 t.bs.length c2, .slice A3 t.ns.length c3] 26) = W at *
  generalize w2.heap.size = z at *
  obtain ⟨z0, z1, z2, -, -, -⟩ := blk3 D.out.hz
  obtain ⟨r0, r1, r2, f0, f1, f2⟩ := blk3 D.out.hx
  go_region_law (first
    | (have hgd := D9.out.rd; clear hgd; go_simp; go_at_call 21; refine (pick_any (w.heap.size + 1) (q+1) 20 _ (by first | exact D9.out.rd.drew | exact D9.out.rd) (by omega) (by omega) (by omega)).mono ?_; rintro e VB ⟨kB, rfl, hkB, hrB, hgB, -⟩; have hgB' : V9.grownBy VB (some (w.heap.size + 1)) := ⟨hgB.os, hgB.tape, hgB.output, hgB.size, hgB.block⟩; have DB := Lib.hid (D9.out.pick hgB' hrB hz); obtain ⟨z0'', z1'', z2'', -, -, -⟩ := blk3 DB.out.hz; obtain ⟨r0'', r1'', r2'', f0'', f1'', f2''⟩ := blk3 DB.out.hx; have aB : 0 ≤ kB := hkB.1; have bB : kB < 20 := (by omega); have q1 : 0 ≤ kB / 19 := (by omega); have q2 : kB / 19 ≤ 1 := (by omega); clear hkB hrB hgB hgB')
    | (go_simp; go_at_call 21; refine (pick_any (w.heap.size + 1) q 12 _ (by first | exact D.out.rd.drew | exact D.out.rd) (by omega) (by omega) (by omega)).mono ?_; rintro e V9 ⟨k9, rfl, hk9, hr9, hg9, -⟩; have hg9' : W.grownBy V9 (some (w.heap.size + 1)) := ⟨hg9.os, hg9.tape, hg9.output, hg9.size, hg9.block⟩; have D9 := Lib.hid (D.out.pick hg9' hr9 hz); obtain ⟨z0', z1', z2', -, -, -⟩ := blk3 D9.out.hz; obtain ⟨r0', r1', r2', f0', f1', f2'⟩ := blk3 D9.out.hx; have a9 : 0 ≤ k9 := hk9.1; have b9 : k9 < 12 := (by omega); clear hk9 hr9 hg9 hg9'))
  all_goals
    clear z0 z1 z2 r0 r1 r2 f0 f1 f2 z0' z1' z2' r0' r1' r2' f0' f1' f2' z0'' z1'' z2''
    have hv : IntKind.i64.wrap (IntKind.i64.wrap (m + k9) + IntKind.i64.wrap (IntKind.i64.wrap (kB.tdiv 19) * 200)) = m + k9 + kB / 19 * 200 := by
      have v1 : IntKind.i64.wrap (kB / 19) = kB / 19 := IntWalk.i64_in _ (by omega)
      have v2 : IntKind.i64.wrap (kB / 19 * 200) = kB / 19 * 200 := IntWalk.i64_in _ (by omega)
      have v4 : IntKind.i64.wrap (m + k9) = m + k9 := IntWalk.i64_in _ (by omega)
      have v3 : IntKind.i64.wrap (m + k9 + kB / 19 * 200) = m + k9 + kB / 19 * 200 := IntWalk.i64_in _ (by omega)
      rw [Int.tdiv_eq_ediv_of_nonneg aB, v1, v2, v4, v3]
    have HF : DrawnSpan w (.returned (.tuple #[.agg #[.slice A1 t.us.length c1, .slice A2 t.bs.length c2, .slice A3 t.ns.length c3], .int .i64 m, .int .i64 (m + k9 + kB / 19 * 200)])) (((VB.setCell ⟨w.heap.size, 0, none⟩ (.slice A1 t.us.length c1)).setCell ⟨w.heap.size, 1, none⟩ (.slice A2 t.bs.length c2)).setCell ⟨w.heap.size, 2, none⟩ (.slice A3 t.ns.length c3)) :=
      ⟨_, t, _, _, rfl, (DB.out.own.set3 DB.out.hx).mono (by omega), hsm.out, ⟨m1, m2⟩, ⟨by omega, by omega⟩, below_tng3 DB.out.low (Nat.le_refl _)⟩
    replace HF := Lib.hid HF
    clear D D9 DB
    rw [hv]
    clear hv
    go_wp2
    refine bodyPost_ret (v := .tuple #[.agg #[.slice A1 t.us.length c1, .slice A2 t.bs.length c2, .slice A3 t.ns.length c3], .int .i64 m, .int .i64 (m + k9 + kB / 19 * 200)]) (by simp [results, Tryd.results11, go_sem, r0'', r1'', r2'']) rfl ?_
    exact HF.out
end Go.Proofs.YteemgkabhkdeaaaDoor
namespace Go.Proofs.YteemgkabhkdeaaaDoor.fnNamesOf
open Go.ChangeShapes Go.WideShapes Go.ChangeAt Go.RowKit Go.Sort
open Go.ChangeMaps (open_string shut_string)

theorem own : ownKnob Tryd.prog.godebug = none := by kernel_rfl
theorem laidOut : laidOutB Tryd.prog = true := by kernel_rfl

theorem word_letters {x : ByteArray} (h : wordOk x = true) : ∀ k : Nat, x.data.toList[k]? ≠ some 32 := by
  intro k e
  have hk : k < x.data.toList.length := by
    rcases Nat.lt_or_ge k x.data.toList.length with h1 | h1
    · exact h1
    · rw [List.getElem?_eq_none h1] at e; cases e
  have hs : k < x.size := by simpa using hk
  rw [List.getElem?_eq_getElem hk] at e
  have e2 : x[k] = 32 := Option.some.inj e
  have := wordOk_no (s := x) hs (by rw [e2]; decide)
  rw [h] at this
  cases this
theorem cutR_words : ∀ ws : List (List UInt8), ws ≠ [] → (∀ x ∈ ws, ∀ k : Nat, x[k]? ≠ some 32) → cutR (Lib.join ws [32]) = ws := by
  intro ws
  induction ws with
  | nil => intro h; exact absurd rfl h
  | cons x r ih =>
    intro _ hw
    cases r with
    | nil => rw [Lib.join_one]; exact cutR_miss (hw x (by simp))
    | cons y r =>
      have e : Lib.join (x :: y :: r) [32] = x ++ 32 :: Lib.join (y :: r) [32] := by
        rw [Lib.join_cons, Lib.join_cons, joinTail_cons]
        simp
      have hi : (x ++ 32 :: Lib.join (y :: r) [32])[x.length]? = some 32 := by
        rw [List.getElem?_append_right (Nat.le_refl _), Nat.sub_self]; rfl
      have hk : ∀ k : Nat, k < x.length → (x ++ 32 :: Lib.join (y :: r) [32])[k]? ≠ some 32 := fun k h => by
        rw [List.getElem?_append_left h]
        exact hw x (by simp) k
      rw [e, cutR_hit hi hk, List.take_left]
      have hd : (x ++ 32 :: Lib.join (y :: r) [32]).drop (x.length + 1) = Lib.join (y :: r) [32] := by
        rw [List.drop_append]
        simp
      rw [hd, ih (by simp) (fun z hz => hw z (by simp [hz]))]
theorem name_words {t : Tg} {n : Int} (h : namedB t n = true) : ∀ x ∈ nameOf t n, wordOk x = true := by
  intro x hx
  obtain ⟨hok, h1, h2⟩ := named_ok h
  obtain ⟨m, rfl⟩ : ∃ m : Nat, n = m := ⟨n.toNat, by omega⟩
  obtain ⟨ho, -⟩ := named_ne h
  obtain ⟨_, hb, hns, _, hw, _⟩ := (ok_iff t).1 hok
  rw [nameOf_yes ho] at hx
  exact hw x (name_mem t.us t.bs t.ns hb hns m (by omega) x hx)
/-- The text of a number is read as it. -/
theorem read_textOf {t : Tg} {n : Int} (h : namedB t n = true) : readTB t (textOf t n) = true ∧ readTV t (textOf t n) = n := by
  have hne : nameOf t n ≠ [] := fun e => by unfold namedB at h; rw [e] at h; simp at h
  have hc : cutL (textOf t n) = nameOf t n := by
    apply data_inj
    rw [cutL_data]
    have e : (textOf t n).data.toList = Lib.join ((nameOf t n).map (·.data.toList)) [32] := by
      have := joinW_join (nameOf t n) (nameOf t n).length (Nat.le_refl _)
      rwa [List.take_length] at this
    rw [e]
    refine cutR_words _ (by simpa using hne) (fun x hx => ?_)
    obtain ⟨y, hy, rfl⟩ := List.mem_map.1 hx
    exact word_letters (name_words h y hy)
  obtain ⟨e1, e2⟩ := read_text t (textOf t n)
  rw [e1, e2, hc]
  exact read_name h (nameOf_short t n)
theorem text_size (t : Tg) (n : Int) : (textOf t n).size ≤ 1000 := by
  have h1 := joinW_size (nameOf_at t n) (nameOf t n).length
  have h2 := nameOf_short t n
  unfold textOf
  omega
theorem namesTo_at (t : Tg) (a : Int) : ∀ k j, j < k → (namesTo t a k).getD j ByteArray.empty = textOf t (a + j) := by
  intro k
  induction k with
  | zero => intro j h; omega
  | succ k ih =>
    intro j hj
    rw [namesTo]
    have hl := namesTo_len t a k
    by_cases e : j = k
    · subst e
      rw [List.getD_eq_getElem?_getD, List.getElem?_append_right (by omega), hl, Nat.sub_self]
      rfl
    · rw [List.getD_eq_getElem?_getD, List.getElem?_append_left (by omega), ← List.getD_eq_getElem?_getD]
      exact ih j (by omega)
theorem fullTo_at (t : Tg) (a : Int) : ∀ k, fullTo t a k = true → ∀ j, j < k → textOf t (a + j) ≠ ⟨#[]⟩ := by
  intro k
  induction k with
  | zero => intro _ j h; omega
  | succ k ih =>
    intro h j hj
    rw [fullTo, Bool.and_eq_true, decide_eq_true_eq] at h
    by_cases e : j = k
    · subst e; exact h.2
    · exact ih h.1 j (by omega)
theorem names_facts {t : Tg} {a b : Int} (h : namesOf t a b ≠ []) : 1 ≤ a ∧ a ≤ b ∧ b ≤ 99999 ∧ ((namesOf t a b).length : Int) = b - a + 1 ∧ (namesOf t a b).length ≤ 200 ∧ ∀ k, k < (namesOf t a b).length → readTB t ((namesOf t a b).getD k ByteArray.empty) = true ∧ readTV t ((namesOf t a b).getD k ByteArray.empty) = a + k ∧ ((namesOf t a b).getD k ByteArray.empty).size ≤ 1000 := by
  cases hc : (spanOk a b && fullTo t a (b + 1 - a).toNat)
  · exact absurd (by unfold namesOf; rw [hc]; rfl) h
  · rw [Bool.and_eq_true] at hc
    obtain ⟨h1, h2⟩ := hc
    have e := names_yes h1 h2
    have hs := of_decide_eq_true h1
    have hl := namesTo_len t a (b + 1 - a).toNat
    rw [e, hl]
    refine ⟨by omega, by omega, by omega, by omega, by omega, fun k hk => ?_⟩
    rw [namesTo_at t a _ k hk]
    have hne := fullTo_at t a _ h2 k hk
    have hn : namedB t (a + k) = true := by
      cases hb : namedB t (a + k)
      · exact absurd (text_no hb).2 hne
      · rfl
    obtain ⟨r1, r2⟩ := read_textOf hn
    exact ⟨r1, r2, text_size t _⟩

set_option maxRecDepth 100000 in
set_option maxHeartbeats 8000000 in
theorem walk (w : World) (A : Option Addr) (n c : Nat) (xs : List Int) (h : Ints w .u8 A n c xs) (hwf : ∀ x ∈ xs, (Lit.int .u8 x).wf = true) (hc : c ≤ maxLen) :
    Calls Tryd.prog 4 #[.slice A n c] w fun e w' => e = .returned (.bool true) ∧ Below w.heap.size w w' := by
  have hn : n ≤ 9223372036854775807 := by have := h.le; unfold maxLen at hc; omega
  by_cases hl : n ≤ 1048576
  · have HD := Lib.hid (drawNamesOf_any A n c xs w h hl hwf hc)
    clear h hwf hc
    go_enter Tryd.func4, Tryd.ntmps4
    go_wp2_with (fail)
    refine HD.out.mono ?_
    rintro e w1 ⟨v, t, a, b, rfl, ho, hsm, ha, hb, hbl⟩
    obtain ⟨A1, c1, A2, c2, A3, c3, rfl⟩ := ho.shape
    have hf := Lib.hid (hsm.fine (by omega))
    have hba := (Below.refl w1.heap.size w1).alloc (Nat.le_refl _) (.cells #[.slice A1 t.us.length c1, .slice A2 t.bs.length c2, .slice A3 t.ns.length c3] 26)
    have S := Lib.hid (⟨hbl.trans (hba.mono hbl.size), Blk.new w1 26 #[.slice A1 t.us.length c1, .slice A2 t.bs.length c2, .slice A3 t.ns.length c3], ho.tng.below hba (Nat.le_refl _)⟩ : LSt w w1.heap.size #[.slice A1 t.us.length c1, .slice A2 t.bs.length c2, .slice A3 t.ns.length c3] t (w1.alloc (.cells #[.slice A1 t.us.length c1, .slice A2 t.bs.length c2, .slice A3 t.ns.length c3] 26)))
    clear ho hsm hbl hba HD
    go_upto_region 4 with (fail)
    generalize w1.alloc (.cells #[.slice A1 t.us.length c1, .slice A2 t.bs.length c2, .slice A3 t.ns.length c3] 26) = W at *
    obtain ⟨z0, z1, z2, -, -, -⟩ := blk3 S.out.hz
    have K1 := Lib.hid (implNamesOf_any _ t a b W S.out.ht hf.out (by omega) (by omega))
    go_wp2_with (fail)
    refine K1.out.mono ?_
    rintro e w2 ⟨v2, rfl, o2, b2⟩
    obtain ⟨A5, c5, rfl, s5⟩ := o2.strs
    replace S := Lib.hid (S.out.step b2)
    have K2 := Lib.hid (specNamesOf_any _ t a b w2 S.out.ht hf.out (by omega) (by omega))
    have hnl := namesOf_len t a b
    clear o2 b2 z0 z1 z2 K1
    obtain ⟨z0, z1, z2, -, -, -⟩ := blk3 S.out.hz
    go_wp2_with (fail)
    refine K2.out.mono ?_
    rintro e w3 ⟨v3, rfl, o3, b3⟩
    obtain ⟨A6, c6, rfl, s6⟩ := o3.strs
    replace S := Lib.hid (S.out.step b3)
    replace s5 := s5.below b3 (Nat.le_refl _)
    have KX := sameTexts_any A5 A6 _ c5 _ c6 _ _ w3 s5 s6 (by omega) (by omega)
    rw [decide_eq_true rfl] at KX
    replace KX := Lib.hid KX
    replace s5 := Lib.hid s5
    clear o3 s6 b3 z0 z1 z2 K2
    have hnf := fun h => names_facts (t := t) (a := a) (b := b) h
    generalize namesOf t a b = ys at *
    replace hnf := Lib.hid hnf
    go_wp2_with (fail)
    refine KX.out.mono ?_
    rintro e w4 ⟨rfl, m4, rfl⟩
    have b4 := below_drewN (Below.refl w3.heap.size w3) m4
    replace S := Lib.hid (S.out.step b4)
    replace s5 := Lib.hid (s5.out.below b4 (Nat.le_refl _))
    clear b4 KX
    generalize w3.drewN m4 = W4 at *
    obtain ⟨z0, z1, z2, -, -, -⟩ := blk3 S.out.hz
    by_cases he : ys = []
    · subst he
      have hl0 : (([] : List ByteArray).length : Int) = 0 := rfl
      go_wp2_with (fail)
      refine (alive_any W4).mono ?_
      rintro e w9 ⟨rfl, b9⟩
      have hB9 := Lib.hid (S.out.low.trans (b9.mono S.out.low.size))
      clear b9
      go_wp2
      go_ret
      exact ⟨rfl, hB9.out⟩
    · obtain ⟨f1, f2, f3, f4, f5, f6⟩ := hnf.out he
      have hpos : 0 < ys.length := by
        rcases Nat.eq_zero_or_pos ys.length with h0 | h0
        · exact absurd (List.eq_nil_of_length_eq_zero h0) he
        · exact h0
      have hne : ∀ j k, j < k → k < ys.length → ys.getD j ByteArray.empty ≠ ys.getD k ByteArray.empty := fun j k hj hk e => by
        have h1 := (f6 j (by omega)).2.1
        have h2 := (f6 k hk).2.1
        rw [e, h2] at h1
        omega
      generalize hL : ys.length = L at *
      obtain ⟨b5, o5, rfl, hb5, hc5⟩ := s5.out.at_ hpos
      have hL0 : ((L : Int) == 0) = false := by rw [beq_eq_false_iff_ne]; omega
      have hend : ((L : Int) == b - a + 1) = true := by rw [beq_iff_eq]; omega
      have hend2 : (L : Int) = b - a + 1 := f4
      replace hL := Lib.hid hL
      replace he := Lib.hid he
      replace hne := Lib.hid hne
      replace f6 := Lib.hid f6
      replace f4 := Lib.hid f4
      replace hend2 := Lib.hid hend2
      replace hc5 := Lib.hid hc5
      clear hnf s5
      have hp0 : 0 ≤ (L : Int) := by omega
      go_wp2
      go_loopw [7] (fun s7 wr => ∃ k : Nat, k ≤ L ∧ s7 = .int .i64 k ∧ Below W4.heap.size W4 wr) (fun i _ => L - (intOf i).toNat)
      case atStart => exact ⟨0, Nat.zero_le _, rfl, Below.refl _ _⟩
      case round =>
        obtain ⟨k, hk, rfl, hbr⟩ := hrel
        have Sr := Lib.hid (S.out.step hbr)
        clear z0 z1 z2
        obtain ⟨z0, z1, z2, -, -, -⟩ := blk3 Sr.out.hz
        by_cases hlt : k < L
        · have ck := (hbr.cell (p := ⟨b5, o5 + k, none⟩) hb5).trans (hc5.out k hlt)
          obtain ⟨r1, r2, r3⟩ := f6.out k hlt
          have KR := fun d os => implReadText_any _ t (ys.getD k ByteArray.empty) (grow (redrawn wr d) os) (Sr.out.ht.below (below_regrown wr d os) (Nat.le_refl _)) hf.out (by omega)
          rw [r1, r2] at KR
          have hnk := fun j hj => hne.out j k hj hlt
          have hcj := fun wq (hb : Below W4.heap.size W4 wq) j (hj : j < k) => (hb.cell (p := ⟨b5, o5 + j, none⟩) hb5).trans (hc5.out j (by omega))
          have hck := fun wq (hb : Below W4.heap.size W4 wq) => (hb.cell (p := ⟨b5, o5 + k, none⟩) hb5).trans (hc5.out k hlt)
          generalize ys.getD k ByteArray.empty = x at *
          have y0 := fun d os => cell_regrown z0 d os
          have y1 := fun d os => cell_regrown z1 d os
          have y2 := fun d os => cell_regrown z2 d os
          have u1 := fun d os => cell_regrown ck d os
          have hkL : (k : Int) < (L : Int) := by omega
          have hkw : IntKind.i64.wrap (a + (k : Int)) = a + (k : Int) := IntWalk.i64_in _ (by omega)
          replace KR := Lib.hid KR
          replace hnk := Lib.hid hnk
          replace hcj := Lib.hid hcj
          replace hck := Lib.hid hck
          replace hbr := Lib.hid hbr
          clear r1 r2 ck
          go_upto_region 12 with (fail)
          refine wp_region_quiet_below (by kernel_rfl) (by kernel_rfl) ?_
          repeat (go_big_quiet_step (first | (go_at_call 7; exact Calls.regrown_of (KR.out _ _))))
          refine wpQuiet_nil ?_
          intro _ hw'
          obtain ⟨pq, hw''⟩ := hw'
          have HBq := hbr.out.trans ((below_regrown wr pq.d pq.os).mono hbr.out.size)
          subst hw''
          have ckq := hck.out _ HBq
          replace HBq := Lib.hid HBq
          clear y0 y1 y2 z0 z1 z2 u1 KR hck
          generalize grow (redrawn wr pq.d) pq.os = wq at *
          go_wp2
          go_loopw [10] (fun s10 wp => ∃ j m : Nat, j ≤ k ∧ s10 = .int .i64 j ∧ wp = wq.drewN m) (fun i _ => k - (intOf i).toNat)
          case atStart => exact ⟨0, 0, Nat.zero_le _, rfl, rfl⟩
          case round =>
            obtain ⟨j, m, hj, rfl, rfl⟩ := hrel
            by_cases hjk : j < k
            · have cj := hcj.out _ HBq.out j hjk
              have hx := hnk.out j hjk
              generalize ys.getD j ByteArray.empty = y at *
              have hx1 : (y.toList == x.toList) = false := by rw [str_eq]; exact decide_eq_false hx
              have hjL : (j : Int) < (L : Int) := by omega
              have hjk' : (j : Int) < (k : Int) := by omega
              replace hx := Lib.hid hx
              go_wp2
              go_quiet (fail)
              go_wp2
              go_roundw
              case rel => exact ⟨j + 1, m + nq, by omega, by go_num, by simp⟩
              case measure => simp [intOf]; omega
            · obtain rfl : j = k := by omega
              go_wp2
              go_roundw
              case rel => exact ⟨j + 1, by omega, by go_num, below_drewN HBq.out m⟩
              case measure => simp [intOf]; omega
        · obtain rfl : k = L := by omega
          have hw1 : IntKind.i64.wrap (b - a) = b - a := IntWalk.i64_in _ (by omega)
          have hw2 : IntKind.i64.wrap (b - a + 1) = b - a + 1 := IntWalk.i64_in _ (by omega)
          have hB9 := Lib.hid (Sr.out.low)
          replace hbr := Lib.hid hbr
          go_wp2
          go_ret
          exact ⟨rfl, hB9.out⟩
  · have t1 : (1048576 : Int) < (n : Int) := by omega
    go_enter Tryd.func4, Tryd.ntmps4
    go_wp2
    go_ret
    exact ⟨rfl, Below.refl _ _⟩

set_option maxRecDepth 100000 in
theorem lifted (os : Os) (started : os.Started) (H : Type) (enc : TypeId × Value → H) :
    ReturnsInHanded {} Tryd.checked os 4 .any (fun w args => (Rows.fnNamesOfSpec.pre enc Tryd.prog Tryd.f4 Rows.fnNamesOfRow.domain false w args ∧ laidMetH Tryd.prog Rows.fnNamesOfRow.laid w) ∧ sizedMet enc Tryd.prog Tryd.f4 (OpenSpec.ofChange Rows.fnNamesOfSpec) false w args)
      (Rows.fnNamesOfSpec.post enc Tryd.prog Tryd.f4 false true false false) := by
  refine returnsInHanded_of_change_and (C := Tryd.checked) (X := fun w _ => laidMetH Tryd.prog Rows.fnNamesOfRow.laid w) (fun _ _ _ hh h => h.of_heap hh) own started (by kernel_rfl) Tryd.func4
    (ChangeSpec.witness_shaped (enc := enc) (C := Tryd.checked) (os := os) (X := fun w _ => laidMetH Tryd.prog Rows.fnNamesOfRow.laid w) false (World.laidAll Tryd.prog os Rows.fnNamesOfRow.laid) #[.slice none 0 0] 8 (World.laidAll_os _ _ _)
      (World.shaped_of_ZipB (by kernel_rfl) (by kernel_rfl)) (by kernel_rfl) (by kernel_rfl) (by kernel_rfl)
      (by rw [MakeChecks.laidMetH_plain _ _ _ (by kernel_rfl)]; exact laidMet_laidAll _ (by kernel_rfl) (by kernel_rfl))) ?_
  intro W base args ds gs before hval0 hW _ _ _ _
  have hval : ∀ (j : Nat) t v, Tryd.f4.params[j]? = some t → args[j]? = some v → Value.okWide Tryd.prog W .any base t v := hval0
  have hW' := hW
  obtain ⟨p, q, hA0, hV, rfl, hfz, hnd⟩ := hW
  have hA : DataW.TrodAll enc Tryd.prog W 0 (fun _ => true) true Tryd.f4.params.toList args.toList ds p := hA0
  rw [Tryd.params4] at hA hval
  obtain ⟨v0, vs0, d0, ds0, p0, q0, hargs, rfl, rfl, h0, r0⟩ := trodAll_cons hA
  obtain ⟨rfl, rfl, rfl⟩ := trodAll_nil r0
  obtain rfl : args = #[v0] := by cases args; simp_all
  obtain ⟨rfl, rfl⟩ := trodVars_none hV
  obtain ⟨a0, len0, cap0, rfl⟩ := okWide_slice Tryd.underlying22 (hval 0 22 v0 rfl rfl)
  have k0 := h0
  have lt0 : ∀ x ∈ p0, x.block < W.heap.size := by obtain ⟨m, hm⟩ := k0; exact DataW.trod_lt m _ _ _ hm
  obtain ⟨z0, s0, w0, m0⟩ : ∃ zs, Ints W .u8 a0 len0 cap0 zs ∧ (∀ n ∈ zs, (Lit.int .u8 n).wf = true) ∧ cap0 ≤ maxLen := by
    obtain ⟨fuel, hf⟩ := h0
    rcases open_ints Tryd.underlying22 Tryd.underlying5 (by kernel_rfl) hf with ⟨hcs, _⟩ | ⟨x, l, c, zs, hcs, _, hl, hm, hz, _, hcell, hwz⟩
    · simp [Value.cells] at hcs
      obtain ⟨rfl, rfl, rfl⟩ := hcs
      exact ⟨[], Ints.none_, by simp, Nat.zero_le _⟩
    · simp [Value.cells] at hcs
      obtain ⟨rfl, rfl, rfl⟩ := hcs
      exact ⟨_, Ints.of_row hl (by simpa using hz) hcell, fun n hn => hwz n (List.mem_of_mem_take hn), hm⟩
  clear hA0 hval0
  refine (walk W a0 len0 cap0 z0 s0 w0 m0).mono fun e W' ⟨he, bel⟩ => ?_
  subst he
  exact ⟨_, rfl, _, _, _, [], _, [], hW', trodAll_mk1 (shut_bool Tryd.underlying4 _), (trodAll_cons_mk (Below.trod laidOut (by kernel_rfl) (of_decide_eq_true (by kernel_rfl)) k0 bel lt0) trodAll_mk0), rfl, bel.frame _, fun h => by cases h⟩

theorem over : Rows.fnNamesOfRow.holds Tryd.pinned (OpenSpec.ofChange Rows.fnNamesOfSpec) :=
  OpenClaim.holds_of_wide 4 Tryd.f4 rfl rfl rfl rfl rfl rfl rfl ⟨rfl, rfl, rfl, rfl, rfl⟩ rfl rfl rfl rfl rfl (by kernel_rfl) Tryd.func4 (by kernel_rfl)
    (of_decide_eq_true (by kernel_rfl)) (by unfold Func.isWrapper; first | (rw [if_pos (by decide +kernel)]; kernel_rfl) | (rw [if_neg (by decide +kernel)]; exact ⟨rfl, rfl⟩))
    (fun os started H enc _ => lifted os started H enc)
theorem proved : Rows.FnNamesOfCardSaid :=
  Claim7.holds_tied_plain_at .later [] [.data, .pinned] true (true, "59a4c4381330beec970c301a0e423a8398080da0c68800d6273fbec4feeac686") false over (fun _ h => by cases h) (by kernel_rfl) (fun _ h => by cases h) fnNamesOf_row_tie rfl ⟨rfl, rfl⟩ (by kernel_rfl) rfl
    (fun f fn hf hfn => by
      obtain rfl : f = 4 := Option.some.inj ((show Tryd.prog.funcNamed "loop.example/numberwords/laws.FnNamesOf" = some 4 by kernel_rfl).symm.trans hf) |>.symm
      obtain rfl : fn = Tryd.f4 := (Option.some.inj (Tryd.func4.symm.trans hfn)).symm
      exact ⟨by kernel_rfl, fun j t ht => by
        rw [Tryd.params4] at ht
        have hm : t ∈ [22] := by simpa using Array.mem_of_getElem? ht
        have hall : ([22].all fun u => !Tryd.prog.wantsStandIn u) = true := by kernel_rfl
        exact (show Tryd.prog.wantsStandIn t = false by simpa using List.all_eq_true.1 hall t hm)⟩)
    (by kernel_rfl)
end Go.Proofs.YteemgkabhkdeaaaDoor.fnNamesOf
