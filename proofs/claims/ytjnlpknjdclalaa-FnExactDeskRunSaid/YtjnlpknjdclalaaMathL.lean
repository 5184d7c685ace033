/-
  Letters of names as a function on numbers; lists in ascending order, what slices.Compact leaves of a sorted row; the least numbers of rings.
-/
import Derived.Test.YtjnlpknjdclalaaMathK
import Derived.Test.YtjnlpknjdclalaaGN
import Derived.Lib.SlicesCompact
namespace Go.Proofs.Ytjnlpknjdclalaa
open Go.RowKit

/-- The letters of a name; -1 if there is none. -/
def lettersOf (t : Tg) (n : Int) : Int := if namedB t n then lettersTo' (nameOf t n) (nameOf t n).length else -1
theorem letters_no {t : Tg} {n : Int} (h : namedB t n = false) : lettersOf t n = -1 := by unfold lettersOf; rw [h]; rfl
theorem letters_yes {t : Tg} {n : Int} (h : namedB t n = true) : lettersOf t n = lettersTo' (nameOf t n) (nameOf t n).length := by unfold lettersOf; rw [if_pos h]
theorem letters_bd (t : Tg) (n : Int) : -1 ≤ lettersOf t n ∧ lettersOf t n ≤ 320 := by
  have h1 := lettersTo_le (nameOf_at t n) (nameOf t n).length
  have h2 := nameOf_short t n
  unfold lettersOf
  split <;> omega
theorem letters_neg (t : Tg) (x : Int) (h : x < 0) : lettersOf t x = -1 := by
  refine letters_no ?_
  cases hb : namedB t x
  · rfl
  · have := named_ok hb; omega
theorem lettersTo_ge {l : List ByteArray} (h : ∀ k, k < l.length → 1 ≤ (l.getD k ByteArray.empty).size) : ∀ k, k ≤ l.length → k ≤ lettersTo' l k := by
  intro k
  induction k with
  | zero => intro _; exact Nat.zero_le _
  | succ k ih => intro hk; rw [lettersTo']; have := h k hk; have := ih (by omega); omega
/-- Letters and words. -/
theorem letters_words {t : Tg} {n : Int} (h : namedB t n = true) : longOf t n ≤ lettersOf t n ∧ lettersOf t n ≤ 8 * longOf t n ∧ 1 ≤ longOf t n ∧ longOf t n ≤ 40 := by
  rw [letters_yes h, longOf_yes h]
  have h1 := lettersTo_le (nameOf_at t n) (nameOf t n).length
  have h2 := nameOf_short t n
  have h3 := lettersTo_ge (l := nameOf t n) (fun k hk => by
    rw [List.getD_eq_getElem?_getD, List.getElem?_eq_getElem hk]
    exact (nameOf_size t n _ (List.getElem_mem hk)).1) _ (Nat.le_refl _)
  have h4 : 0 < (nameOf t n).length := by unfold namedB at h; exact of_decide_eq_true h
  omega
/-- The letters of a unit. -/
theorem letters_unit {t : Tg} {n : Int} (h : namedB t n = true) (hn : n ≤ t.us.length) : lettersOf t n = (t.us.getD (n.toNat - 1) ByteArray.empty).size := by
  obtain ⟨hok, h1, h2⟩ := named_ok h
  obtain ⟨m, rfl⟩ : ∃ m : Nat, n = m := ⟨n.toNat, by omega⟩
  have hs := ok_shape hok
  have hb := hs.bs
  have ht : topOf t.bs (m : Int) = 0 := topOf_zero fun i hi hl => by
    have h2' : 2 ≤ t.bs.length := by omega
    have e := hs.two h2'
    by_cases e1 : i = 1
    · subst e1; omega
    · have := bases_mono hb 1 i (by omega) hl; omega
  have hN : nameOf t m = [t.us.getD (m - 1) ByteArray.empty] := by
    rw [nameOf_yes (okN_of hok (by omega) (by omega)), nameT, name_unit ht, if_neg (by omega)]
  rw [letters_yes h, hN]
  show ((lettersTo' [t.us.getD (m - 1) ByteArray.empty] 1 : Nat) : Int) = _
  rw [lettersTo', lettersTo']
  simp

/-! Ascending lists. -/
def Asc (l : List Int) : Prop := l.Pairwise (· < ·)
theorem Asc.unique : ∀ {l l' : List Int}, Asc l → Asc l' → (∀ x, x ∈ l ↔ x ∈ l') → l = l' := by
  intro l
  induction l with
  | nil =>
    intro l' _ _ he
    cases l' with
    | nil => rfl
    | cons y r => exact absurd ((he y).2 (by simp)) (by simp)
  | cons x r ih =>
    intro l' h h' he
    cases l' with
    | nil => exact absurd ((he x).1 (by simp)) (by simp)
    | cons y r' =>
      obtain ⟨h1, h2⟩ := List.pairwise_cons.1 h
      obtain ⟨h1', h2'⟩ := List.pairwise_cons.1 h'
      have e : x = y := by
        have a := (he x).1 (by simp)
        have b := (he y).2 (by simp)
        rcases List.mem_cons.1 a with a | a
        · exact a
        · rcases List.mem_cons.1 b with b | b
          · exact b.symm
          · have := h1 _ b; have := h1' _ a; omega
      subst e
      rw [ih h2 h2' fun z => ?_]
      constructor
      · intro hz
        rcases List.mem_cons.1 ((he z).1 (List.mem_cons_of_mem _ hz)) with e | e
        · have := h1 _ hz; omega
        · exact e
      · intro hz
        rcases List.mem_cons.1 ((he z).2 (List.mem_cons_of_mem _ hz)) with e | e
        · have := h1' _ hz; omega
        · exact e
theorem asc_at {l : List Int} (h : Asc l) {i j : Nat} (hij : i < j) (hj : j < l.length) : l.getD i 0 < l.getD j 0 := by
  have := List.pairwise_iff_getElem.1 h i j (by omega) hj hij
  simpa [List.getD_eq_getElem?_getD, hj, show i < l.length by omega] using this
theorem mem_getD {l : List Int} {k : Nat} (hk : k < l.length) : l.getD k 0 ∈ l := by
  rw [List.getD_eq_getElem?_getD, List.getElem?_eq_getElem hk]; exact List.getElem_mem hk
theorem getD_of_mem {l : List Int} {x : Int} (h : x ∈ l) : ∃ k, k < l.length ∧ l.getD k 0 = x := by
  obtain ⟨k, hk, e⟩ := List.mem_iff_getElem.1 h
  exact ⟨k, hk, by rw [List.getD_eq_getElem?_getD, List.getElem?_eq_getElem hk]; exact e⟩
theorem mem_take_getD {l : List Int} {x : Int} {k : Nat} (h : x ∈ l.take k) : ∃ i, i < k ∧ i < l.length ∧ l.getD i 0 = x := by
  obtain ⟨i, hi, e⟩ := List.mem_iff_getElem.1 h
  rw [List.length_take] at hi
  exact ⟨i, by omega, by omega, by rw [List.getElem_take] at e; rw [List.getD_eq_getElem?_getD, List.getElem?_eq_getElem (by omega)]; exact e⟩
theorem mem_drop_getD {l : List Int} {x : Int} {k : Nat} (h : x ∈ l.drop k) : ∃ i, k ≤ i ∧ i < l.length ∧ l.getD i 0 = x := by
  obtain ⟨i, hi, e⟩ := List.mem_iff_getElem.1 h
  rw [List.length_drop] at hi
  exact ⟨k + i, by omega, by omega, by rw [List.getElem_drop] at e; rw [List.getD_eq_getElem?_getD, List.getElem?_eq_getElem (by omega)]; exact e⟩
/-- One number put at its place. -/
theorem asc_put {l : List Int} {x : Int} {at_ : Nat} (h : Asc l) (hlt : ∀ i, i < at_ → i < l.length → l.getD i 0 < x) (hge : at_ < l.length → x < l.getD at_ 0) : Asc (l.take at_ ++ [x] ++ l.drop at_) := by
  have hlow : ∀ y ∈ l.take at_, y < x := fun y hy => by
    obtain ⟨i, hi, hl, rfl⟩ := mem_take_getD hy
    exact hlt i hi hl
  have hup : ∀ y ∈ l.drop at_, x < y := fun y hy => by
    obtain ⟨i, hi, hl, rfl⟩ := mem_drop_getD hy
    have h0 := hge (by omega)
    by_cases e : i = at_
    · subst e; exact h0
    · have := asc_at h (i := at_) (j := i) (by omega) hl; omega
  unfold Asc
  rw [List.append_assoc, List.pairwise_append]
  refine ⟨h.sublist (List.take_sublist _ _), List.pairwise_cons.2 ⟨hup, h.sublist (List.drop_sublist _ _)⟩, fun y hy z hz => ?_⟩
  rcases List.mem_cons.1 hz with rfl | hz
  · exact hlow y hy
  · have := hlow y hy; have := hup z hz; omega
theorem mem_put {l : List Int} {x y : Int} {at_ : Nat} : y ∈ l.take at_ ++ [x] ++ l.drop at_ ↔ y = x ∨ y ∈ l := by
  rw [List.mem_append, List.mem_append, List.mem_singleton]
  have : y ∈ l ↔ y ∈ l.take at_ ∨ y ∈ l.drop at_ := by rw [← List.mem_append, List.take_append_drop]
  rw [this]
  constructor
  · rintro ((h | h) | h)
    · exact .inr (.inl h)
    · exact .inl h
    · exact .inr (.inr h)
  · rintro (h | h | h)
    · exact .inl (.inr h)
    · exact .inl (.inl h)
    · exact .inr h

/-- The least of the first k numbers. -/
def lowTo (l : List Int) : Nat → Int
  | 0 => l.getD 0 0
  | k + 1 => min (lowTo l k) (l.getD k 0)
def lowL (l : List Int) : Int := lowTo l l.length
theorem lowTo_one (l : List Int) : lowTo l 1 = l.getD 0 0 := by rw [lowTo, lowTo]; omega
theorem lowTo_le (l : List Int) : ∀ k j, j < k → lowTo l k ≤ l.getD j 0 := by
  intro k
  induction k with
  | zero => intro j h; omega
  | succ k ih =>
    intro j h
    rw [lowTo]
    by_cases e : j = k
    · subst e; omega
    · have := ih j (by omega); omega
theorem lowTo_at {l : List Int} (h0 : 0 < l.length) : ∀ k, k ≤ l.length → ∃ j, j < l.length ∧ lowTo l k = l.getD j 0 := by
  intro k
  induction k with
  | zero => intro _; exact ⟨0, h0, rfl⟩
  | succ k ih =>
    intro h
    obtain ⟨j, hj, e⟩ := ih (by omega)
    rw [lowTo]
    by_cases hm : lowTo l k ≤ l.getD k 0
    · exact ⟨j, hj, by omega⟩
    · exact ⟨k, by omega, by omega⟩
theorem lowL_spec {l : List Int} (h0 : 0 < l.length) : lowL l ∈ l ∧ ∀ x ∈ l, lowL l ≤ x := by
  obtain ⟨j, hj, e⟩ := lowTo_at h0 l.length (Nat.le_refl _)
  refine ⟨by unfold lowL; rw [e]; exact mem_getD hj, fun x hx => ?_⟩
  obtain ⟨k, hk, rfl⟩ := getD_of_mem hx
  exact lowTo_le l _ _ hk

section
open Go.Lib
theorem compact_asc {zs : List Int} (hs : zs.Pairwise (· ≤ ·)) : ∀ m, m ≤ zs.length → Asc (compactUpTo zs.toArray m) ∧ (∀ x ∈ compactUpTo zs.toArray m, ∃ j, j < m ∧ zs.getD j 0 = x) ∧ (∀ j, j < m → zs.getD j 0 ∈ compactUpTo zs.toArray m) := by
  intro m
  have hle : ∀ i j, i ≤ j → j < zs.length → zs.getD i 0 ≤ zs.getD j 0 := fun i j hij hj => by
    by_cases e : i = j
    · subst e; exact Int.le_refl _
    · have := List.pairwise_iff_getElem.1 hs i j (by omega) hj (by omega)
      simpa [List.getD_eq_getElem?_getD, hj, show i < zs.length by omega] using this
  have hget : ∀ j, j < zs.length → zs.toArray[j]! = zs.getD j 0 := fun j hj => by
    simp [List.getD_eq_getElem?_getD, hj]
  induction m with
  | zero => intro _; exact ⟨List.Pairwise.nil, (fun x hx => by cases hx), fun j hj => by omega⟩
  | succ m ih =>
    intro hm
    obtain ⟨h1, h2, h3⟩ := ih (by omega)
    rw [compactUpTo_succ]
    by_cases hk : keeps zs.toArray m = true
    · rw [if_pos hk, hget m hm]
      refine ⟨?_, fun x hx => ?_, fun j hj => ?_⟩
      · unfold Asc
        rw [List.pairwise_append]
        refine ⟨h1, by simp, fun x hx y hy => ?_⟩
        obtain ⟨j, hj, rfl⟩ := h2 x hx
        rw [List.mem_singleton] at hy
        subst hy
        have hk' : m = 0 ∨ zs.toArray[m]! ≠ zs.toArray[m - 1]! := by unfold keeps at hk; exact of_decide_eq_true hk
        rcases hk' with e | e
        · omega
        · rw [hget m hm, hget (m - 1) (by omega)] at e
          have a := hle j (m - 1) (by omega) (by omega)
          have b := hle (m - 1) m (by omega) (by omega)
          omega
      · rcases List.mem_append.1 hx with hx | hx
        · obtain ⟨j, hj, e⟩ := h2 x hx
          exact ⟨j, by omega, e⟩
        · rw [List.mem_singleton] at hx
          exact ⟨m, by omega, hx.symm⟩
      · by_cases e : j = m
        · subst e; simp
        · exact List.mem_append.2 (.inl (h3 j (by omega)))
    · rw [if_neg hk, List.append_nil]
      refine ⟨h1, fun x hx => ?_, fun j hj => ?_⟩
      · obtain ⟨j, hj, e⟩ := h2 x hx
        exact ⟨j, by omega, e⟩
      · by_cases e : j = m
        · subst e
          have hk' : ¬ (j = 0 ∨ zs.toArray[j]! ≠ zs.toArray[j - 1]!) := fun h => hk (by unfold keeps; exact decide_eq_true h)
          have h0 : j ≠ 0 := fun h => hk' (.inl h)
          have he : zs.toArray[j]! = zs.toArray[j - 1]! := Classical.byContradiction fun h => hk' (.inr h)
          rw [hget j hm, hget (j - 1) (by omega)] at he
          rw [he]; exact h3 (j - 1) (by omega)
        · exact h3 j (by omega)
theorem compact_spec {zs : List Int} (hs : zs.Pairwise (· ≤ ·)) : Asc (compactUpTo zs.toArray zs.length) ∧ ∀ x, x ∈ compactUpTo zs.toArray zs.length ↔ x ∈ zs := by
  obtain ⟨h1, h2, h3⟩ := compact_asc hs zs.length (Nat.le_refl _)
  refine ⟨h1, fun x => ⟨fun hx => ?_, fun hx => ?_⟩⟩
  · obtain ⟨j, hj, rfl⟩ := h2 x hx; exact mem_getD hj
  · obtain ⟨j, hj, rfl⟩ := getD_of_mem hx; exact h3 j hj
end
theorem sortedI (zs : List Int) : (zs.mergeSort fun x y => decide (x ≤ y)).Pairwise (· ≤ ·) ∧ ∀ x, x ∈ (zs.mergeSort fun x y => decide (x ≤ y)) ↔ x ∈ zs :=
  ⟨(List.pairwise_mergeSort (le := fun x y : Int => decide (x ≤ y)) (fun a b c h1 h2 => by simp only [decide_eq_true_eq] at h1 h2 ⊢; omega) (fun a b => by simp only [Bool.or_eq_true, decide_eq_true_eq]; omega) zs).imp (fun h => of_decide_eq_true h),
   fun _ => (List.mergeSort_perm zs _).mem_iff⟩

/-! The least numbers of rings. -/
noncomputable def leastF (f : Int → Int) (n : Int) : Int := lowL (ringF f n)
def IsUp (f : Int → Int) (k : Nat) (l : List Int) : Prop := Asc l ∧ ∀ x, x ∈ l ↔ ∃ i : Nat, 1 ≤ i ∧ i ≤ k ∧ leastF f i = x
noncomputable def upF (f : Int → Int) (k : Nat) : List Int := Classical.epsilon (IsUp f k)
def allOk (f : Int → Int) (k : Nat) : Prop := ∀ i : Nat, 1 ≤ i → i ≤ k → okF f i = true
open Classical in
noncomputable def ringsF (f : Int → Int) (m : Int) : List Int := if (1 ≤ m ∧ m ≤ 500) ∧ allOk f m.toNat then upF f m.toNat else []
section
variable {f : Int → Int} {k : Nat} {l : List Int}
theorem IsUp.the (h : IsUp f k l) : upF f k = l := by
  have h' : IsUp f k (upF f k) := Classical.epsilon_spec ⟨l, h⟩
  exact h'.1.unique h.1 fun x => (h'.2 x).trans (h.2 x).symm
theorem IsUp.zero (f : Int → Int) : IsUp f 0 [] := ⟨List.Pairwise.nil, fun x => ⟨(fun h => by cases h), fun ⟨i, h1, h2, _⟩ => by omega⟩⟩
/-- It is there already. -/
theorem IsUp.same (h : IsUp f k l) (hm : leastF f ((k + 1 : Nat) : Int) ∈ l) : IsUp f (k + 1) l := by
  refine ⟨h.1, fun x => ⟨fun hx => ?_, fun ⟨i, h1, h2, e⟩ => ?_⟩⟩
  · obtain ⟨i, h1, h2, e⟩ := (h.2 x).1 hx
    exact ⟨i, h1, by omega, e⟩
  · by_cases hi : i = k + 1
    · subst hi; rw [← e]; exact hm
    · exact (h.2 x).2 ⟨i, h1, by omega, e⟩
/-- It is put at its place. -/
theorem IsUp.put {at_ : Nat} (h : IsUp f k l) (hlt : ∀ i, i < at_ → i < l.length → l.getD i 0 < leastF f ((k + 1 : Nat) : Int)) (hge : at_ < l.length → leastF f ((k + 1 : Nat) : Int) < l.getD at_ 0) :
    IsUp f (k + 1) (l.take at_ ++ [leastF f ((k + 1 : Nat) : Int)] ++ l.drop at_) := by
  refine ⟨asc_put h.1 hlt hge, fun x => ?_⟩
  rw [mem_put]
  constructor
  · rintro (rfl | hx)
    · exact ⟨k + 1, by omega, Nat.le_refl _, rfl⟩
    · obtain ⟨i, h1, h2, e⟩ := (h.2 x).1 hx
      exact ⟨i, h1, by omega, e⟩
  · rintro ⟨i, h1, h2, e⟩
    by_cases hi : i = k + 1
    · subst hi; exact .inl e.symm
    · exact .inr ((h.2 x).2 ⟨i, h1, by omega, e⟩)
theorem find_place (l : List Int) (x : Int) : ∃ k, k ≤ l.length ∧ (∀ i, i < k → l.getD i 0 < x) ∧ (k < l.length → x ≤ l.getD k 0) := by
  obtain ⟨k, hk, hp, hmin⟩ := least_of (p := fun k => k < l.length → x ≤ l.getD k 0) l.length (fun h => absurd h (by omega))
  refine ⟨k, hk, fun i hi => ?_, hp⟩
  have := hmin i hi
  have hn : ¬ (x ≤ l.getD i 0) := fun h => this fun _ => h
  omega
theorem up_ex (f : Int → Int) : ∀ k, ∃ l, IsUp f k l := by
  intro k
  induction k with
  | zero => exact ⟨[], IsUp.zero f⟩
  | succ k ih =>
    obtain ⟨l, h⟩ := ih
    obtain ⟨a, ha, h1, h2⟩ := find_place l (leastF f ((k + 1 : Nat) : Int))
    by_cases hm : leastF f ((k + 1 : Nat) : Int) ∈ l
    · exact ⟨l, h.same hm⟩
    · refine ⟨_, h.put (at_ := a) (fun i hi _ => h1 i hi) fun hl => ?_⟩
      have := h2 hl
      have hne : leastF f ((k + 1 : Nat) : Int) ≠ l.getD a 0 := fun e => hm (by rw [e]; exact mem_getD hl)
      omega
theorem up_is (f : Int → Int) (k : Nat) : IsUp f k (upF f k) := Classical.epsilon_spec (up_ex f k)
theorem rings_no {m : Int} (h : ¬ ((1 ≤ m ∧ m ≤ 500) ∧ allOk f m.toNat)) : ringsF f m = [] := by unfold ringsF; rw [if_neg h]
theorem rings_yes {m : Nat} (h1 : 1 ≤ m) (h2 : m ≤ 500) (ha : allOk f m) (h : IsUp f m l) : ringsF f m = l := by
  unfold ringsF; rw [if_pos ⟨by omega, by simpa using ha⟩]
  simpa using h.the
theorem asc_short {m : Nat} : ∀ {l : List Int}, Asc l → (∀ x ∈ l, 0 ≤ x ∧ x < m) → l.length ≤ m := by
  induction m with
  | zero =>
    intro l _ h
    cases l with
    | nil => exact Nat.le_refl _
    | cons x r => have := h x (by simp); omega
  | succ m ih =>
    intro l ha h
    by_cases hl : l.length = 0
    · omega
    · have hr := ih (l := l.take (l.length - 1)) (ha.sublist (List.take_sublist _ _)) (fun x hx => by
        obtain ⟨i, hi, hil, rfl⟩ := mem_take_getD hx
        have h1 := h _ (mem_getD hil)
        have h2 := h _ (mem_getD (k := l.length - 1) (by omega))
        have h3 := asc_at ha (i := i) (j := l.length - 1) (by omega) (by omega)
        omega)
      rw [List.length_take] at hr
      omega
/-- What the program has: all least numbers, in any order, sorted and made distinct. -/
theorem up_of_list {zs : List Int} (hl : zs.length = k) (hz : ∀ i, i < k → zs.getD i 0 = leastF f ((i + 1 : Nat) : Int)) :
    IsUp f k (Go.Lib.compactUpTo (zs.mergeSort fun x y => decide (x ≤ y)).toArray (zs.mergeSort fun x y => decide (x ≤ y)).length) := by
  obtain ⟨s1, s2⟩ := sortedI zs
  obtain ⟨c1, c2⟩ := compact_spec s1
  refine ⟨c1, fun x => ?_⟩
  rw [c2, s2]
  constructor
  · intro hx
    obtain ⟨i, hi, e⟩ := getD_of_mem hx
    exact ⟨i + 1, by omega, by omega, by rw [← e]; exact (hz i (by omega)).symm⟩
  · rintro ⟨i, h1, h2, e⟩
    have := hz (i - 1) (by omega)
    rw [show i - 1 + 1 = i by omega, e] at this
    rw [← this]; exact mem_getD (by omega)
/-- Least numbers of rings begin their own rings. -/
theorem least_ring (hf : ∀ x, -1 ≤ f x ∧ f x ≤ 320) (hneg : ∀ x, x < 0 → f x = -1) {n : Int} (ho : okF f n = true) : okF f (leastF f n) = true ∧ ∀ x ∈ ringF f (leastF f n), leastF f n ≤ x := by
  have hp : 0 < (ringF f n).length := by
    have := ringF_pos (n := n) hf
    rw [ho] at this
    exact of_decide_eq_true this
  have hlen : (ringF f n).length = lamF f n := by rw [ringF_len, if_pos ho]
  obtain ⟨h1, h2⟩ := lowL_spec hp
  have h1' : leastF f n ∈ ringF f n := h1
  obtain ⟨k, hk, e⟩ := getD_of_mem h1'
  have ht := ring_turn hf hneg ho (k := k) (by omega)
  rw [e] at ht
  refine ⟨ht.1, fun x hx => ?_⟩
  rw [ht.2] at hx
  refine h2 x ?_
  rcases List.mem_append.1 hx with h | h
  · exact List.mem_of_mem_drop h
  · exact List.mem_of_mem_take h
theorem least_bd (hf : ∀ x, -1 ≤ f x ∧ f x ≤ 320) (hneg : ∀ x, x < 0 → f x = -1) {n : Int} (hn : n ≤ 1000) (ho : okF f n = true) : 0 ≤ leastF f n ∧ leastF f n ≤ 1000 := by
  have hp : 0 < (ringF f n).length := by
    have := ringF_pos (n := n) hf
    rw [ho] at this
    exact of_decide_eq_true this
  have h1 : leastF f n ∈ ringF f n := (lowL_spec hp).1
  obtain ⟨k, hk, e⟩ := getD_of_mem h1
  rw [ringF_len, if_pos ho] at hk
  rw [ringF_at ho hk] at e
  have a := ok_pos hf hneg ho (muF f n + k)
  rw [e] at a
  refine ⟨a, ?_⟩
  cases hx : muF f n + k with
  | zero => rw [hx] at e; rw [← e]; exact hn
  | succ j => rw [hx] at e; rw [← e]; have := hf (itF f j n); show f _ ≤ 1000; omega
theorem ringsF_len (hf : ∀ x, -1 ≤ f x ∧ f x ≤ 320) (hneg : ∀ x, x < 0 → f x = -1) (m : Int) : (ringsF f m).length ≤ 1001 := by
  unfold ringsF
  split
  · rename_i h
    have hu := up_is f m.toNat
    refine asc_short hu.1 fun x hx => ?_
    obtain ⟨i, h1, h2, rfl⟩ := (hu.2 x).1 hx
    have ho := h.2 i h1 h2
    have := least_bd hf hneg (n := (i : Int)) (by omega) ho
    omega
  · simp
theorem rings_up {m x : Int} (hx : x ∈ ringsF f m) : (1 ≤ m ∧ m ≤ 500) ∧ allOk f m.toNat ∧ IsUp f m.toNat (ringsF f m) := by
  by_cases h : (1 ≤ m ∧ m ≤ 500) ∧ allOk f m.toNat
  · refine ⟨h.1, h.2, ?_⟩
    have hu := up_is f m.toNat
    rw [rings_yes (f := f) (m := m.toNat) (by omega) (by omega) h.2 hu |>.symm] at hu
    rwa [show ((m.toNat : Nat) : Int) = m by omega] at hu
  · rw [rings_no h] at hx; cases hx
theorem rings_asc (m : Int) : Asc (ringsF f m) := by
  by_cases h : ringsF f m = []
  · rw [h]; exact List.Pairwise.nil
  · obtain ⟨x, hx⟩ := List.exists_mem_of_ne_nil _ h
    exact (rings_up hx).2.2.1
/-- What is known of the least numbers of rings. -/
theorem rings_mem (hf : ∀ x, -1 ≤ f x ∧ f x ≤ 320) (hneg : ∀ x, x < 0 → f x = -1) {m x : Int} (hx : x ∈ ringsF f m) :
    okF f x = true ∧ (∀ y ∈ ringF f x, x ≤ y) ∧ (0 < (ringsF f (m + 1)).length → x ∈ ringsF f (m + 1)) ∧ 0 ≤ x ∧ x ≤ 1000 := by
  obtain ⟨h1, h2, h3⟩ := rings_up hx
  obtain ⟨i, i1, i2, e⟩ := (h3.2 x).1 hx
  have ho := h2 i i1 i2
  have hl := least_ring hf hneg ho
  have hb := least_bd hf hneg (n := (i : Int)) (by omega) ho
  rw [e] at hl hb
  refine ⟨hl.1, hl.2, fun hp => ?_, hb.1, hb.2⟩
  obtain ⟨y, hy⟩ := List.exists_mem_of_ne_nil (ringsF f (m + 1)) (fun h0 => by rw [h0] at hp; exact absurd hp (by simp))
  obtain ⟨g1, g2, g3⟩ := rings_up hy
  exact (g3.2 x).2 ⟨i, i1, by omega, e⟩
end
end Go.Proofs.Ytjnlpknjdclalaa
