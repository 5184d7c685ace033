/-
  Tongues in memory; the contract of TongueOk of the program.
-/
import Derived.Test.YteemgkabhkdeaaaDoorMap
import Derived.IntWalk
namespace Go.Proofs.YteemgkabhkdeaaaDoor
open Go.RowKit Go.WideMaps Go.Maps

/-- A tongue. -/
structure Tg where
  us : List ByteArray
  bs : List Int
  ns : List ByteArray
def Tg.ok (t : Tg) : Bool := tongueOk t.us t.bs t.ns
def Tg.words (t : Tg) : List ByteArray := t.us ++ t.ns
/-- Within what the walks can bear. -/
structure Tg.Fine (t : Tg) : Prop where
  us : t.us.length ≤ 1048576
  bs : t.bs.length ≤ 1048576
  ns : t.ns.length ≤ 1048576
  fits : Fits t.bs
  size : ∀ x ∈ t.us ++ t.ns, x.size ≤ 1048576
/-- The value v is the tongue t, with slices anywhere. -/
structure Tng (w : World) (v : Value) (t : Tg) : Prop where
  ex : ∃ A1 c1 A2 c2 A3 c3, v = .agg #[.slice A1 t.us.length c1, .slice A2 t.bs.length c2, .slice A3 t.ns.length c3] ∧ Strs w A1 t.us.length c1 t.us ∧ Ints w .i64 A2 t.bs.length c2 t.bs ∧ Strs w A3 t.ns.length c3 t.ns

section
variable {w w' : World} {v : Value} {t : Tg}
theorem Tng.below {B : Nat} (h : Tng w v t) (hb : Below B w w') (hB : w.heap.size ≤ B) : Tng w' v t := by
  obtain ⟨A1, c1, A2, c2, A3, c3, e, h1, h2, h3⟩ := h.ex
  exact ⟨A1, c1, A2, c2, A3, c3, e, h1.below hb hB, h2.below hb hB, h3.below hb hB⟩
theorem Tng.drewN (h : Tng w v t) (m : Nat) : Tng (w.drewN m) v t := h.below (below_drewN (Below.refl _ _) m) (Nat.le_refl _)
end

theorem ok_iff (t : Tg) : t.ok = true ↔
    (1 ≤ t.us.length ∧ t.us.length ≤ 20) ∧ basesOk t.bs = true ∧ t.ns.length + 1 = t.bs.length ∧ (2 ≤ t.bs.length → t.bs.getD 1 0 = t.us.length + 1) ∧ (∀ s ∈ t.words, wordOk s = true) ∧ t.words.Nodup := tongueOk_iff _ _ _
theorem ok_no {t : Tg} (h : ¬ ((1 ≤ t.us.length ∧ t.us.length ≤ 20) ∧ basesOk t.bs = true ∧ t.ns.length + 1 = t.bs.length ∧ (2 ≤ t.bs.length → t.bs.getD 1 0 = t.us.length + 1) ∧ (∀ s ∈ t.words, wordOk s = true) ∧ t.words.Nodup)) : t.ok = false := by
  cases e : t.ok
  · rfl
  · exact absurd ((ok_iff t).1 e) h
theorem bases_len5 {bs : List Int} (h : basesOk bs = true) : 1 ≤ bs.length ∧ bs.length ≤ 5 := bases_len h

/-- As far as bases and numbers of words go. -/
structure Tg.Shape (t : Tg) : Prop where
  us : 1 ≤ t.us.length ∧ t.us.length ≤ 20
  bs : basesOk t.bs = true
  ns : t.ns.length + 1 = t.bs.length
  two : 2 ≤ t.bs.length → t.bs.getD 1 0 = t.us.length + 1
theorem ok_shape {t : Tg} (h : t.ok = true) : t.Shape := let ⟨a, b, c, d, _, _⟩ := (ok_iff t).1 h; ⟨a, b, c, d⟩
theorem ok_no_shape {t : Tg} (h : ¬ t.Shape) : t.ok = false := ok_no fun ⟨a, b, c, d, _, _⟩ => h ⟨a, b, c, d⟩
/-- All of the first k words are words. -/
def wordsTo (ws : List ByteArray) (k : Nat) : Prop := ∀ j, j < k → wordOk (ws.getD j ByteArray.empty) = true
theorem ok_of_words {t : Tg} (hs : t.Shape) (hw : wordsTo t.words t.words.length) (hd : t.words.Nodup) : t.ok = true :=
  (ok_iff t).2 ⟨hs.us, hs.bs, hs.ns, hs.two, fun s m => by
    obtain ⟨j, hj, rfl⟩ := List.mem_iff_getElem.1 m
    have := hw j hj
    simpa [List.getD_eq_getElem?_getD, hj] using this, hd⟩
theorem ok_no_word {t : Tg} {k : Nat} (hk : k < t.words.length) (h : wordOk (t.words.getD k ByteArray.empty) = false) : t.ok = false :=
  ok_no fun ⟨_, _, _, _, hw, _⟩ => by
    have := hw _ (List.getElem_mem hk)
    simp only [List.getD_eq_getElem?_getD, List.getElem?_eq_getElem hk, Option.getD_some] at h
    rw [this] at h; cases h
theorem ok_size {t : Tg} (hs : t.Shape) (hw : wordsTo t.words t.words.length) : t.ok = decide ((Maps.size (plD t.words t.words.length) : Int) = (t.words.length : Int)) := by
  have h := (plD_size t.words _ (Nat.le_refl _)).2
  rw [List.take_length] at h
  by_cases hd : t.words.Nodup
  · rw [ok_of_words hs hw hd, decide_eq_true (by rw [h.2 hd])]
  · rw [ok_no (fun ⟨_, _, _, _, _, hd'⟩ => hd hd'), decide_eq_false (fun e => hd (h.1 (by omega)))]
theorem words_length (t : Tg) : t.words.length = t.us.length + t.ns.length := by simp [Tg.words]
theorem words_size {t : Tg} (h : t.Fine) (k : Nat) : (t.words.getD k ByteArray.empty).size ≤ maxLen := by
  by_cases hk : k < t.words.length
  · have := h.size _ (List.getElem_mem hk)
    simp only [List.getD_eq_getElem?_getD, List.getElem?_eq_getElem hk, Option.getD_some]
    unfold maxLen; omega
  · rw [List.getD, List.getElem?_eq_none (by omega)]; exact Nat.zero_le _

set_option maxRecDepth 100000 in
set_option maxHeartbeats 1000000 in
theorem implTongueOk_no (v : Value) (t : Tg) (w : World) (h : Tng w v t) (hf : t.Fine) (hs : ¬ t.Shape) :
    Calls Tryd.prog 39 #[v] w fun e w' => e = .returned (.bool false) ∧ Below w.heap.size w w' := by
  obtain ⟨A1, c1, A2, c2, A3, c3, rfl, h1, h2, h3⟩ := h.ex
  have hB := fun W h => implBasesOk_any A2 t.bs.length c2 t.bs W h hf.bs hf.fits
  have hu := hf.us
  have hb := hf.bs
  have hn := hf.ns
  have HI := Lib.hid (h2.below ((Below.refl _ _).alloc (Nat.le_refl _) (.cells #[.slice A1 t.us.length c1, .slice A2 t.bs.length c2, .slice A3 t.ns.length c3] 26)) (Nat.le_refl _))
  by_cases hu1 : 1 ≤ t.us.length ∧ t.us.length ≤ 20
  · obtain ⟨u1, u2⟩ := hu1
    cases hbs : basesOk t.bs
    · replace hB := Lib.hid hB
      replace hbs := Lib.hid hbs
      clear h h1 h2 h3 hs
      go_enter Tryd.func39, Tryd.ntmps39
      go_wp2_with (fail)
      refine (hB.out _ HI.out).mono ?_
      rintro e _ ⟨rfl, rfl⟩
      rw [hbs.out]
      go_wp2
      go_ret
      exact ⟨rfl, (Below.refl _ _).alloc (Nat.le_refl _) _⟩
    · have hbl := bases_len hbs
      replace hB := Lib.hid hB
      by_cases hnb : t.ns.length + 1 = t.bs.length
      · have h2b : 2 ≤ t.bs.length ∧ ¬ t.bs.getD 1 0 = t.us.length + 1 := by
          by_cases h2 : 2 ≤ t.bs.length
          · refine ⟨h2, fun e => hs ⟨⟨u1, u2⟩, hbs, hnb, fun _ => e⟩⟩
          · exact absurd ⟨⟨u1, u2⟩, hbs, hnb, fun h => absurd h h2⟩ hs
        obtain ⟨h2l, hne⟩ := h2b
        have hq : ((t.ns.length : Int) != (t.bs.length : Int) - 1) = false := by rw [bne_eq_false_iff_eq]; omega
        obtain ⟨b, o, rfl, hbo, h2c⟩ := h2.at_ (by omega)
        have c1 := h2c 1 (by omega)
        have f1 := hf.fits 1
        have hd1 : decide (1 < (t.bs.length : Int)) = true := decide_eq_true (by omega)
        have hl1 : 1 < t.bs.length := by omega
        have hw1 : IntKind.i64.wrap ((t.us.length : Int) + 1) = (t.us.length : Int) + 1 := IntWalk.i64_in _ (by omega)
        generalize t.bs.getD 1 0 = x at *
        replace hbs := Lib.hid hbs
        have hne' : (x != (t.us.length : Int) + 1) = true := by rw [bne_iff_ne]; exact hne
        clear h h1 h2 h3 hs h2c hnb hne
        go_enter Tryd.func39, Tryd.ntmps39
        go_wp2_with (fail)
        refine (hB.out _ HI.out).mono ?_
        rintro e _ ⟨rfl, rfl⟩
        rw [hbs.out]
        go_wp2
        go_quiet (fail)
        go_wp2
        go_ret
        exact ⟨rfl, below_drewN ((Below.refl _ _).alloc (Nat.le_refl _) _) _⟩
      · have hq : ((t.ns.length : Int) != (t.bs.length : Int) - 1) = true := by rw [bne_iff_ne]; omega
        replace hbs := Lib.hid hbs
        clear h h1 h2 h3 hs hnb
        go_enter Tryd.func39, Tryd.ntmps39
        go_wp2_with (fail)
        refine (hB.out _ HI.out).mono ?_
        rintro e _ ⟨rfl, rfl⟩
        rw [hbs.out]
        go_wp2
        go_ret
        exact ⟨rfl, (Below.refl _ _).alloc (Nat.le_refl _) _⟩
  · clear h h1 h2 h3 hs hB
    by_cases hu0 : t.us.length < 1
    all_goals
      go_enter Tryd.func39, Tryd.ntmps39
      go_wp2
      go_ret
      exact ⟨rfl, (Below.refl _ _).alloc (Nat.le_refl _) _⟩
end Go.Proofs.YteemgkabhkdeaaaDoor
