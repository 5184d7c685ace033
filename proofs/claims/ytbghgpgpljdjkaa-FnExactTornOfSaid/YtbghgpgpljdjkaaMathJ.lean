/-
  What the great laws ask of codes, as plain mathematics.
-/
import Derived.Test.YtbghgpgpljdjkaaMathE
import Derived.Test.YtbghgpgpljdjkaaMathF
namespace Go.Proofs.Ytbghgpgpljdjkaa

theorem round_len (l : List ByteArray) : (roundOf l).length ≤ l.length := by
  unfold roundOf
  split
  · rw [List.length_map]; exact Nat.le_refl _
  · exact Nat.zero_le _
theorem round_size (l : List ByteArray) : ∀ x ∈ roundOf l, ∃ y ∈ l, x.size = y.size := by
  intro x hx
  unfold roundOf at hx
  split at hx
  · obtain ⟨y, hy, rfl⟩ := List.mem_map.1 hx
    exact ⟨y, hy, rev_size y⟩
  · cases hx
theorem round_none {l : List ByteArray} (h : codeOk l = false) : roundOf l = [] := by unfold roundOf; rw [h]; rfl
theorem round_some {l : List ByteArray} (h : codeOk l = true) : codeOk (roundOf l) = true ∧ roundOf (roundOf l) = l ∧ 1 ≤ (roundOf l).length := by
  refine ⟨?_, round_twice h, ?_⟩
  · unfold roundOf; rw [h, if_pos rfl, round_code]; exact h
  · have := (codeOk_iff.1 h).1.1
    unfold roundOf
    rw [h, if_pos rfl, List.length_map]; exact this
theorem flat_len {l a : List ByteArray} (h : codeOk l = true) (ha : ∀ u ∈ a, u ∈ l) : a.length ≤ (a.map tl).flatten.length := by
  induction a with
  | nil => simp
  | cons x a ih =>
    have h1 := (codeOk_len h (ha x (by simp))).1
    have h2 := ih (fun u hu => ha u (by simp [hu]))
    rw [List.map_cons, List.flatten_cons, List.length_append, tl_len, List.length_cons]
    omega
/-- What a text is torn into. -/
theorem torn_facts {l : List ByteArray} {s : ByteArray} (h : tornB l s = true) : codeOk l = true ∧ s.size ≤ 24 ∧ TornIs l s (tornOf l s) := by
  unfold tornB at h
  rw [Bool.and_eq_true, decide_eq_true_eq, decide_eq_true_eq] at h
  obtain ⟨h1, h2, h3⟩ := waysV_one h.1
  obtain ⟨a, ha, hf⟩ := ways_some (wl_ne h1) (tl s).length (tl s) (Nat.le_refl _) (by show 1 ≤ waysN l s; omega)
  have hex : ∃ b, TornIs l s b := by
    have key : ∀ a : List (List UInt8), (∀ x ∈ a, x ∈ wl l) → ∃ b : List ByteArray, (∀ u ∈ b, u ∈ l) ∧ b.map tl = a := by
      intro a
      induction a with
      | nil => exact fun _ => ⟨[], by simp, rfl⟩
      | cons x a ih =>
        intro h
        obtain ⟨b, hb, e⟩ := ih (fun y hy => h y (by simp [hy]))
        obtain ⟨u, hu, rfl⟩ := List.mem_map.1 (h x (by simp))
        refine ⟨u :: b, fun v hv => ?_, by rw [List.map_cons, e]⟩
        rcases List.mem_cons.1 hv with rfl | hv
        · exact hu
        · exact hb v hv
    obtain ⟨b, hb, e⟩ := key a ha
    exact ⟨b, hb, by rw [e, hf]⟩
  obtain ⟨b, hb⟩ := hex
  rw [torn_eq h.1 h.2 hb]
  exact ⟨h1, h2, hb⟩
theorem torn_none {l : List ByteArray} {s : ByteArray} (h : tornB l s = false) : tornOf l s = [] := by
  refine (torn_not fun ⟨h1, h2⟩ => ?_).1
  rw [torn_yes h1 h2] at h
  cases h
theorem torn_len (l : List ByteArray) (s : ByteArray) : (tornOf l s).length ≤ 24 := by
  cases h : tornB l s
  · rw [torn_none h]; simp
  · obtain ⟨h1, h2, h3, h4⟩ := torn_facts h
    have := flat_len h1 h3
    rw [h4, tl_len] at this
    omega

abbrev cA : ByteArray := ⟨#[97]⟩
abbrev cB : ByteArray := ⟨#[98]⟩
abbrev cAB : ByteArray := ⟨#[97, 98]⟩
abbrev cBA : ByteArray := ⟨#[98, 97]⟩
abbrev cBB : ByteArray := ⟨#[98, 98]⟩
theorem code_a : codeOk [cA] = true := by decide
theorem code_aa : codeOk [cA, cA] = false := by decide
theorem apart_a : apartOk [cA, cBA, cBB] = true := by decide
theorem code_abb : codeOk [cA, cAB, cBB] = true := by decide
theorem read_abb : readOk [cA, cAB, cBB] = true := by
  refine readOk_iff.2 ⟨code_abb, fun h => ?_⟩
  have key : ∀ x, Dang (wl [cA, cAB, cBB]) x → x = [98] := by
    intro x hx
    induction hx with
    | init hu hv hne e =>
      simp [tl] at hu hv
      rcases hu with rfl | rfl | rfl <;> rcases hv with rfl | rfl | rfl <;> first | exact absurd rfl hne | (simp at e; done) | (simp at e; exact e.symm)
    | grow hd hu e ih =>
      subst ih
      simp [tl] at hu
      rcases hu with rfl | rfl | rfl <;> first | (simp at e; done) | (simp at e; exact e.symm)
    | eat hd hu e ih =>
      subst ih
      simp [tl] at hu
      rcases hu with rfl | rfl | rfl <;> simp at e
  cases key [] h
theorem read_bab : readOk [cA, cB, cAB] = false := by
  cases h : readOk [cA, cB, cAB]
  · rfl
  · refine absurd ?_ (readOk_iff.1 h).2
    have h1 : Dang (wl [cA, cB, cAB]) [98] := .init (u := [97]) (v := [97, 98]) (by simp [tl]) (by simp [tl]) (by decide) rfl
    exact .eat (u := [98]) h1 (by simp [tl]) rfl
/-- What can be read is made in at most one way. -/
theorem read_ways {l : List ByteArray} (h : readOk l = true) (s : ByteArray) : waysN l s ≤ 1 := by
  obtain ⟨h1, h2⟩ := readOk_ud.1 h
  exact ways_le (wl_ne h1) (wl_nodup h1) h2 _ _ (Nat.le_refl _)
theorem waysV_le {l : List ByteArray} {s : ByteArray} (h : waysN l s ≤ 1) : waysV l s ≤ 1 := by
  unfold waysV; split <;> omega
theorem two_facts {l : List ByteArray} (h : twoB l = true) : codeOk l = true ∧ l.length ≤ 4 ∧ ∃ n, 1 ≤ n ∧ n ≤ 6 ∧ FirstTwo l n (twoX l) ∧ ∀ m, 1 ≤ m → m < n → NoTwo l m := by
  unfold twoB twoP at h
  by_cases hh : ∃ p : ByteArray × Bool, TwoIs l p.1 p.2
  · rw [dif_pos hh] at h
    obtain ⟨h1, h2⟩ := two_eq hh.choose_spec
    rcases hh.choose_spec with ⟨_, a⟩ | ⟨e, _⟩
    · rw [h1]; exact a
    · rw [h] at e; cases e
  · rw [dif_neg hh] at h; cases h
theorem two_none {l : List ByteArray} (h : twoB l = false) : twoX l = ByteArray.empty := by
  unfold twoB twoP at h
  by_cases hh : ∃ p : ByteArray × Bool, TwoIs l p.1 p.2
  · rw [dif_pos hh] at h
    obtain ⟨h1, h2⟩ := two_eq hh.choose_spec
    rcases hh.choose_spec with ⟨e, _⟩ | ⟨_, e, _⟩
    · rw [h] at e; cases e
    · rw [h1]; exact e
  · unfold twoX twoP; rw [dif_neg hh]
theorem two_none' {l : List ByteArray} (h : twoB l = false) : twoX l = ⟨#[]⟩ := two_none h
theorem two_read {l : List ByteArray} (h : twoB l = true) : readOk l = false := by
  obtain ⟨_, _, n, _, _, hf, _⟩ := two_facts h
  cases hr : readOk l
  · rfl
  · have := read_ways hr (twoX l); have := hf.2.1; omega
/-- What the first text of two ways is. -/
theorem two_text {l : List ByteArray} (h : twoB l = true) : 1 ≤ (twoX l).size ∧ (twoX l).size ≤ 6 ∧ 2 ≤ waysV l (twoX l) ∧ readOk l = false ∧ (∀ y : ByteArray, y.size = (twoX l).size - 1 → waysV l y ≤ 1) := by
  obtain ⟨hc, _, n, n1, n2, hf, hm⟩ := two_facts h
  have hs := hf.1
  refine ⟨by omega, by omega, ?_, two_read h, fun y hy => waysV_le ?_⟩
  · rw [waysV_yes hc (by omega)]; have := hf.2.1; omega
  · by_cases h0 : y.size = 0
    · unfold waysN
      have : tl y = [] := List.eq_nil_of_length_eq_zero (by rw [tl_len]; exact h0)
      rw [this]; unfold waysC; rw [ways_nil]; exact Nat.le_refl _
    · exact hm (n - 1) (by omega) (by omega) y (by omega)
theorem ways_empty {l : List ByteArray} (h : codeOk l = true) : waysV l ByteArray.empty = 1 := by
  rw [waysV_yes h (by show 0 ≤ 24; omega)]
  unfold waysN
  rw [tl_empty]; unfold waysC; rw [ways_nil]; rfl
theorem ways_neg {l : List ByteArray} {s : ByteArray} (h : waysV l s < 0) : waysV l s = -1 := by
  unfold waysV at h ⊢
  split
  · next e => rw [if_pos e] at h; omega
  · rfl
theorem ways_fine {l : List ByteArray} {s : ByteArray} (h : 0 ≤ waysV l s) : codeOk l = true ∧ s.size ≤ 24 ∧ waysV l s = waysN l s := by
  unfold waysV at h ⊢
  split at h
  · next e =>
    rw [if_pos e]
    rw [Bool.and_eq_true, decide_eq_true_eq] at e
    exact ⟨e.1, e.2, rfl⟩
  · omega
/-- The ways by first words, word by word. -/
theorem ways_step {l : List ByteArray} (h : codeOk l = true) {s : ByteArray} (hs : s.size ≤ 24) {k : Nat} (hk : k < l.length) :
    (wayTo l s 0 (k + 1) : Int) = wayTo l s 0 k + if fitsAt s 0 (l.getD k ByteArray.empty) then waysV l (s.extract (l.getD k ByteArray.empty).size s.size) else 0 := by
  rw [wayTo_go s 0 hk, Int.natCast_add, Nat.zero_add]
  split
  · rw [waysV_yes h (by rw [ByteArray.size_extract]; omega), wf_from]
  · rfl
theorem ways_sum {l : List ByteArray} (h : codeOk l = true) {s : ByteArray} (h0 : s.size ≠ 0) : wayTo l s 0 l.length = waysN l s := by
  rw [wayTo_end h (by omega), wf_zero]
theorem fits_take {s u : ByteArray} : fitsAt s 0 u = true ↔ u.size ≤ s.size ∧ s.extract 0 u.size = u := by
  unfold fitsAt; rw [from_zero]; exact beg_take
/-- The words of a torn text, one behind the other. -/
theorem torn_to {s : ByteArray} {a : List ByteArray} (h : (a.map tl).flatten = tl s) {k : Nat} (hk : k < a.length) : s.extract 0 ((a.take k).map tl).flatten.length ++ a.getD k ByteArray.empty = s.extract 0 ((a.take (k + 1)).map tl).flatten.length := by
  have key : ∀ m, tl (s.extract 0 ((a.take m).map tl).flatten.length) = ((a.take m).map tl).flatten := fun m => by
    rw [tl_ext, List.drop_zero, Nat.sub_zero, ← h]
    conv => lhs; rw [← List.take_append_drop m a]
    rw [List.take_append_drop m a]
    conv => lhs; arg 2; rw [← List.take_append_drop m a, List.map_append, List.flatten_append]
    rw [List.take_left]
  refine tl_inj ?_
  rw [tl_app, key, key, List.take_succ_eq_append_getElem hk, List.map_append, List.flatten_append]
  simp [List.getD_eq_getElem?_getD, hk]
theorem torn_all {s : ByteArray} {a : List ByteArray} (h : (a.map tl).flatten = tl s) : s.extract 0 ((a.take a.length).map tl).flatten.length = s := by
  rw [List.take_length, h, tl_len]; exact from_zero s
theorem extract_none (s : ByteArray) (a : List ByteArray) : s.extract 0 ((a.take 0).map tl).flatten.length = ⟨#[]⟩ := tl_inj (by rw [tl_ext]; simp)
end Go.Proofs.Ytbghgpgpljdjkaa
