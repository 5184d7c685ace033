/-
  Codes, as plain mathematics: texts that are made of words in one way, what words leave of each other, and words turned round.
-/
import Derived.WalkKit
namespace Go.Proofs.YtfmdbmhakkajfaaDoor

section
variable {α : Type}

/-- Is each text made of words in at most one way? -/
def UD (C : List (List α)) : Prop := ∀ a b : List (List α), (∀ x ∈ a, x ∈ C) → (∀ x ∈ b, x ∈ C) → a.flatten = b.flatten → a = b
/-- What words leave of each other, again and again. -/
inductive Dang (C : List (List α)) : List α → Prop
  | init {u v d : List α} : u ∈ C → v ∈ C → u ≠ v → v = u ++ d → Dang C d
  | grow {u d e : List α} : Dang C d → u ∈ C → u = d ++ e → Dang C e
  | eat {u d e : List α} : Dang C d → u ∈ C → d = u ++ e → Dang C e

theorem dang_two {C : List (List α)} {d : List α} (h : Dang C d) :
    ∃ x y a b, x ≠ y ∧ (∀ z ∈ x :: a, z ∈ C) ∧ (∀ z ∈ y :: b, z ∈ C) ∧ (x :: a).flatten ++ d = (y :: b).flatten := by
  induction h with
  | @init u v d hu hv hne e =>
    exact ⟨u, v, [], [], hne, by simpa using hu, by simpa using hv, by simp [e]⟩
  | @grow u d e _ hu he ih =>
    obtain ⟨x, y, a, b, hne, ha, hb, hf⟩ := ih
    refine ⟨y, x, b, a ++ [u], Ne.symm hne, hb, ?_, ?_⟩
    · intro z hz
      rcases List.mem_cons.1 hz with rfl | hz
      · exact ha _ (by simp)
      · rcases List.mem_append.1 hz with hz | hz
        · exact ha _ (by simp [hz])
        · rw [List.mem_singleton.1 hz]; exact hu
    · rw [← hf, List.append_assoc, ← he]
      simp
  | @eat u d e _ hu he ih =>
    obtain ⟨x, y, a, b, hne, ha, hb, hf⟩ := ih
    refine ⟨x, y, a ++ [u], b, hne, ?_, hb, ?_⟩
    · intro z hz
      rcases List.mem_cons.1 hz with rfl | hz
      · exact ha _ (by simp)
      · rcases List.mem_append.1 hz with hz | hz
        · exact ha _ (by simp [hz])
        · rw [List.mem_singleton.1 hz]; exact hu
    · rw [← hf, he]
      simp
/-- If words leave nothing of each other, some text is made in two ways. -/
theorem not_ud {C : List (List α)} (h : Dang C []) : ¬ UD C := fun hu => by
  obtain ⟨x, y, a, b, hne, ha, hb, hf⟩ := dang_two h
  rw [List.append_nil] at hf
  have := hu _ _ ha hb hf
  exact hne (List.cons.inj this).1
theorem append_cases {x y s t : List α} (h : x ++ s = y ++ t) : (∃ d, y = x ++ d ∧ s = d ++ t) ∨ (∃ d, x = y ++ d ∧ t = d ++ s) := by
  rcases List.append_eq_append_iff.1 h with ⟨d, h1, h2⟩ | ⟨d, h1, h2⟩
  · exact .inl ⟨d, h1, h2⟩
  · exact .inr ⟨d, h1, h2⟩
theorem dang_end {C : List (List α)} : ∀ (n : Nat) (p q : List (List α)) (d : List α), p.length + q.length ≤ n → Dang C d → (∀ x ∈ p, x ∈ C) → (∀ x ∈ q, x ∈ C) → p.flatten = d ++ q.flatten → Dang C [] := by
  intro n
  induction n with
  | zero =>
    intro p q d hn hd _ _ hf
    have hp : p = [] := List.eq_nil_of_length_eq_zero (by omega)
    have hq : q = [] := List.eq_nil_of_length_eq_zero (by omega)
    subst hp; subst hq
    have : d = [] := by simpa using hf.symm
    rwa [this] at hd
  | succ n ih =>
    intro p q d hn hd hp hq hf
    cases p with
    | nil =>
      have : d = [] := by
        have h := hf.symm
        simp only [List.flatten_nil] at h
        exact (List.append_eq_nil_iff.1 h).1
      rwa [this] at hd
    | cons u p =>
      have hu := hp u (by simp)
      rw [List.flatten_cons] at hf
      rcases append_cases hf with ⟨e, h1, h2⟩ | ⟨e, h1, h2⟩
      · exact ih p q e (by simp at hn; omega) (.eat hd hu h1) (fun x hx => hp x (by simp [hx])) hq h2
      · exact ih q p e (by simp at hn; omega) (.grow hd hu h1) hq (fun x hx => hp x (by simp [hx])) h2
/-- If no words leave nothing, each text is made in one way. -/
theorem ud_of {C : List (List α)} (hC : ∀ x ∈ C, x ≠ []) (h : ¬ Dang C []) : UD C := by
  intro a
  induction a with
  | nil =>
    intro b _ hb hf
    cases b with
    | nil => rfl
    | cons y b =>
      exfalso
      have h := hf.symm
      rw [List.flatten_cons, List.flatten_nil] at h
      exact hC y (hb y (by simp)) (List.append_eq_nil_iff.1 h).1
  | cons x a ih =>
    intro b ha hb hf
    cases b with
    | nil =>
      exfalso
      rw [List.flatten_cons, List.flatten_nil] at hf
      exact hC x (ha x (by simp)) (List.append_eq_nil_iff.1 hf).1
    | cons y b =>
      have ha' : ∀ z ∈ a, z ∈ C := fun z hz => ha z (by simp [hz])
      have hb' : ∀ z ∈ b, z ∈ C := fun z hz => hb z (by simp [hz])
      by_cases e : x = y
      · subst e
        rw [List.flatten_cons, List.flatten_cons, List.append_cancel_left_eq] at hf
        rw [ih b ha' hb' hf]
      · exfalso
        rw [List.flatten_cons, List.flatten_cons] at hf
        rcases append_cases hf with ⟨d, h1, h2⟩ | ⟨d, h1, h2⟩
        · exact h (dang_end _ a b d (Nat.le_refl _) (.init (ha x (by simp)) (hb y (by simp)) e h1) ha' hb' h2)
        · exact h (dang_end _ b a d (Nat.le_refl _) (.init (hb y (by simp)) (ha x (by simp)) (Ne.symm e) h1) hb' ha' h2)
theorem ud_iff {C : List (List α)} (hC : ∀ x ∈ C, x ≠ []) : UD C ↔ ¬ Dang C [] := ⟨fun h hd => not_ud hd h, ud_of hC⟩

/-- Words turned round. -/
theorem flatten_round (a : List (List α)) : (a.map List.reverse).reverse.flatten = a.flatten.reverse := by
  induction a with
  | nil => rfl
  | cons x a ih => simp [ih]
theorem round_round (C : List (List α)) : (C.map List.reverse).map List.reverse = C := by
  rw [List.map_map]
  conv => rhs; rw [← List.map_id C]
  exact List.map_congr_left fun x _ => List.reverse_reverse x
theorem ud_round {C : List (List α)} (h : UD C) : UD (C.map List.reverse) := by
  have hm : ∀ a : List (List α), (∀ x ∈ a, x ∈ C.map List.reverse) → ∀ x ∈ (a.map List.reverse).reverse, x ∈ C := fun a ha x hx => by
    rw [List.mem_reverse, List.mem_map] at hx
    obtain ⟨y, hy, rfl⟩ := hx
    obtain ⟨z, hz, rfl⟩ := List.mem_map.1 (ha y hy)
    rwa [List.reverse_reverse]
  intro a b ha hb hf
  have h1 := h _ _ (hm a ha) (hm b hb) (by rw [flatten_round, flatten_round, hf])
  have h2 := List.reverse_inj.1 h1
  have h3 := congrArg (List.map List.reverse) h2
  rwa [round_round, round_round] at h3
theorem ud_round_iff {C : List (List α)} : UD (C.map List.reverse) ↔ UD C :=
  ⟨fun h => by have := ud_round h; rwa [round_round] at this, ud_round⟩

end

section
variable {α : Type} [DecidableEq α]
/-- In how many ways is a text made of words? (fuel: no less than its letters) -/
def waysF (C : List (List α)) : Nat → List α → Nat
  | 0, s => if s = [] then 1 else 0
  | n + 1, s => if s = [] then 1 else ((C.filter (fun u => u.isPrefixOf s)).map (fun u => waysF C n (s.drop u.length))).sum
def waysC (C : List (List α)) (s : List α) : Nat := waysF C s.length s
theorem ways_nil (C : List (List α)) (n : Nat) : waysF C n [] = 1 := by cases n <;> simp [waysF]
theorem prefix_drop {u s : List α} (h : u.isPrefixOf s = true) : s = u ++ s.drop u.length := by
  obtain ⟨t, ht⟩ := List.isPrefixOf_iff_prefix.1 h
  rw [← ht, List.drop_left]
theorem ways_fuel {C : List (List α)} (hC : ∀ x ∈ C, x ≠ []) : ∀ (n m : Nat) (s : List α), s.length ≤ n → s.length ≤ m → waysF C n s = waysF C m s := by
  intro n
  induction n with
  | zero =>
    intro m s h _
    have : s = [] := List.eq_nil_of_length_eq_zero (by omega)
    rw [this, ways_nil, ways_nil]
  | succ n ih =>
    intro m s hn hm
    by_cases e : s = []
    · rw [e, ways_nil, ways_nil]
    · cases m with
      | zero => exact absurd (List.eq_nil_of_length_eq_zero (by omega)) e
      | succ m =>
        rw [waysF, waysF, if_neg e, if_neg e]
        congr 1
        refine List.map_congr_left fun u hu => ?_
        obtain ⟨h1, -⟩ := List.mem_filter.1 hu
        have hl : 1 ≤ u.length := by
          have := hC u h1
          rcases Nat.eq_zero_or_pos u.length with h | h
          · exact absurd (List.eq_nil_of_length_eq_zero h) this
          · exact h
        exact ih m _ (by rw [List.length_drop]; omega) (by rw [List.length_drop]; omega)
theorem ways_go {C : List (List α)} (hC : ∀ x ∈ C, x ≠ []) {s : List α} (hs : s ≠ []) : waysC C s = ((C.filter (fun u => u.isPrefixOf s)).map (fun u => waysC C (s.drop u.length))).sum := by
  unfold waysC
  cases hl : s.length with
  | zero => exact absurd (List.eq_nil_of_length_eq_zero hl) hs
  | succ n =>
    rw [waysF, if_neg hs]
    congr 1
    refine List.map_congr_left fun u hu => ?_
    obtain ⟨h1, -⟩ := List.mem_filter.1 hu
    have hu1 : 1 ≤ u.length := by
      rcases Nat.eq_zero_or_pos u.length with h | h
      · exact absurd (List.eq_nil_of_length_eq_zero h) (hC u h1)
      · exact h
    exact ways_fuel hC _ _ _ (by rw [List.length_drop]; omega) (Nat.le_refl _)
theorem sum_pos {l : List Nat} (h : 1 ≤ l.sum) : ∃ x ∈ l, 1 ≤ x := by
  induction l with
  | nil => simp at h
  | cons a l ih =>
    by_cases ha : 1 ≤ a
    · exact ⟨a, by simp, ha⟩
    · rw [List.sum_cons] at h
      obtain ⟨x, hx, h1⟩ := ih (by omega)
      exact ⟨x, by simp [hx], h1⟩
/-- A text that is made is made of some words. -/
theorem ways_some {C : List (List α)} (hC : ∀ x ∈ C, x ≠ []) : ∀ (n : Nat) (s : List α), s.length ≤ n → 1 ≤ waysC C s → ∃ a : List (List α), (∀ x ∈ a, x ∈ C) ∧ a.flatten = s := by
  intro n
  induction n with
  | zero =>
    intro s h _
    have : s = [] := List.eq_nil_of_length_eq_zero (by omega)
    exact ⟨[], by simp, by rw [this]; rfl⟩
  | succ n ih =>
    intro s hn h
    by_cases e : s = []
    · exact ⟨[], by simp, by rw [e]; rfl⟩
    · rw [ways_go hC e] at h
      obtain ⟨x, hx, h1⟩ := sum_pos h
      obtain ⟨u, hu, rfl⟩ := List.mem_map.1 hx
      obtain ⟨h2, h3⟩ := List.mem_filter.1 hu
      have hu1 : 1 ≤ u.length := by
        rcases Nat.eq_zero_or_pos u.length with h | h
        · exact absurd (List.eq_nil_of_length_eq_zero h) (hC u h2)
        · exact h
      have hsp : 1 ≤ s.length := by
        rcases Nat.eq_zero_or_pos s.length with h | h
        · exact absurd (List.eq_nil_of_length_eq_zero h) e
        · exact h
      obtain ⟨a, ha, hf⟩ := ih (s.drop u.length) (by rw [List.length_drop]; omega) h1
      refine ⟨u :: a, fun z hz => ?_, ?_⟩
      · rcases List.mem_cons.1 hz with rfl | hz
        · exact h2
        · exact ha z hz
      · rw [List.flatten_cons, hf, ← prefix_drop h3]
theorem sum_two {ι : Type} {l : List ι} {f : ι → Nat} (hn : l.Nodup) (h : 2 ≤ (l.map f).sum) : (∃ x ∈ l, 2 ≤ f x) ∨ (∃ x ∈ l, ∃ y ∈ l, x ≠ y ∧ 1 ≤ f x ∧ 1 ≤ f y) := by
  induction l with
  | nil => simp at h
  | cons a l ih =>
    obtain ⟨ha, hn'⟩ := List.nodup_cons.1 hn
    rw [List.map_cons, List.sum_cons] at h
    by_cases h2 : 2 ≤ f a
    · exact .inl ⟨a, by simp, h2⟩
    · by_cases h1 : 1 ≤ f a
      · obtain ⟨v, hv, hv1⟩ := sum_pos (l := l.map f) (by omega)
        obtain ⟨y, hy, rfl⟩ := List.mem_map.1 hv
        exact .inr ⟨a, by simp, y, by simp [hy], fun e => ha (e ▸ hy), h1, hv1⟩
      · rcases ih hn' (by omega) with ⟨x, hx, h⟩ | ⟨x, hx, y, hy, h⟩
        · exact .inl ⟨x, by simp [hx], h⟩
        · exact .inr ⟨x, by simp [hx], y, by simp [hy], h⟩
/-- What can be read is made in at most one way. -/
theorem ways_le {C : List (List α)} (hC : ∀ x ∈ C, x ≠ []) (hn : C.Nodup) (hu : UD C) : ∀ (n : Nat) (s : List α), s.length ≤ n → waysC C s ≤ 1 := by
  intro n
  induction n with
  | zero =>
    intro s h
    have : s = [] := List.eq_nil_of_length_eq_zero (by omega)
    rw [this]; unfold waysC; rw [ways_nil]; omega
  | succ n ih =>
    intro s hs
    by_cases e : s = []
    · rw [e]; unfold waysC; rw [ways_nil]; omega
    · rw [ways_go hC e]
      refine Nat.le_of_not_lt fun h => ?_
      have hsp : 1 ≤ s.length := by
        rcases Nat.eq_zero_or_pos s.length with h | h
        · exact absurd (List.eq_nil_of_length_eq_zero h) e
        · exact h
      have hlen : ∀ u ∈ C, (s.drop u.length).length ≤ n := fun u hu' => by
        have hu1 : 1 ≤ u.length := by
          rcases Nat.eq_zero_or_pos u.length with h | h
          · exact absurd (List.eq_nil_of_length_eq_zero h) (hC u hu')
          · exact h
        rw [List.length_drop]; omega
      rcases sum_two (hn.filter _) h with ⟨u, h1, h2⟩ | ⟨u, h1, v, h2, hne, h3, h4⟩
      · have := ih _ (hlen u (List.mem_filter.1 h1).1)
        omega
      · obtain ⟨m1, p1⟩ := List.mem_filter.1 h1
        obtain ⟨m2, p2⟩ := List.mem_filter.1 h2
        obtain ⟨a, ha, fa⟩ := ways_some hC _ _ (Nat.le_refl _) h3
        obtain ⟨b, hb, fb⟩ := ways_some hC _ _ (Nat.le_refl _) h4
        have := hu (u :: a) (v :: b) (fun z hz => by
          rcases List.mem_cons.1 hz with rfl | hz
          · exact m1
          · exact ha z hz) (fun z hz => by
          rcases List.mem_cons.1 hz with rfl | hz
          · exact m2
          · exact hb z hz) (by rw [List.flatten_cons, List.flatten_cons, fa, fb, ← prefix_drop p1, ← prefix_drop p2])
        exact hne (List.cons.inj this).1
end
end Go.Proofs.YtfmdbmhakkajfaaDoor
