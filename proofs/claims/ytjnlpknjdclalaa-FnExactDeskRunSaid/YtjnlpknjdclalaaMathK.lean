/-
  A function on numbers, done again and again: the first number that comes again, the ring into which numbers lead, the steps to it; a slow and a fast walker.
-/
import Derived.Lib.Hide
namespace Go.Proofs.Ytjnlpknjdclalaa

def itF (f : Int → Int) : Nat → Int → Int
  | 0, x => x
  | k + 1, x => f (itF f k x)
theorem itF_add (f : Int → Int) (a b : Nat) (x : Int) : itF f (a + b) x = itF f a (itF f b x) := by
  induction a with
  | zero => simp [itF]
  | succ a ih => rw [Nat.succ_add, itF, itF, ih]
theorem itF_one (f : Int → Int) (k : Nat) (x : Int) : itF f (k + 1) x = itF f k (f x) := by rw [itF_add]; rfl

/-- From n on the number after mu steps is the first that comes again, after lam steps more. -/
structure RingIs (f : Int → Int) (n : Int) (mu lam : Nat) : Prop where
  pos : 1 ≤ lam
  back : itF f (mu + lam) n = itF f mu n
  apart : ∀ i j, i < j → j < mu + lam → itF f i n ≠ itF f j n

section
variable {f : Int → Int} {n : Int} {mu lam : Nat}
theorem RingIs.per (h : RingIs f n mu lam) {i : Nat} (hi : mu ≤ i) : itF f (i + lam) n = itF f i n := by
  obtain ⟨d, rfl⟩ : ∃ d, i = d + mu := ⟨i - mu, by omega⟩
  rw [Nat.add_assoc, itF_add, h.back, ← itF_add]
theorem RingIs.per_mul (h : RingIs f n mu lam) (c : Nat) {i : Nat} (hi : mu ≤ i) : itF f (i + c * lam) n = itF f i n := by
  induction c with
  | zero => simp
  | succ c ih => rw [Nat.succ_mul, ← Nat.add_assoc, h.per (by omega), ih]
theorem RingIs.red (h : RingIs f n mu lam) {i : Nat} (hi : mu ≤ i) : itF f i n = itF f (mu + (i - mu) % lam) n := by
  have e := Nat.div_add_mod (i - mu) lam
  have : i = mu + (i - mu) % lam + ((i - mu) / lam) * lam := by rw [Nat.mul_comm]; omega
  conv => lhs; rw [this]
  exact h.per_mul _ (by omega)
theorem RingIs.mod_lt (h : RingIs f n mu lam) (i : Nat) : i % lam < lam := Nat.mod_lt _ h.pos
/-- When two of the numbers are equal. -/
theorem RingIs.eq_iff (h : RingIs f n mu lam) {i j : Nat} (hij : i < j) : itF f i n = itF f j n ↔ mu ≤ i ∧ (j - i) % lam = 0 := by
  constructor
  · intro e
    by_cases hi : mu ≤ i
    · refine ⟨hi, ?_⟩
      rw [h.red hi, h.red (i := j) (by omega)] at e
      have l1 := h.mod_lt (i - mu)
      have l2 := h.mod_lt (j - mu)
      have hm : (i - mu) % lam = (j - mu) % lam := by
        rcases Nat.lt_trichotomy ((i - mu) % lam) ((j - mu) % lam) with x | x | x
        · exact absurd e (h.apart _ _ (by omega) (by omega))
        · exact x
        · exact absurd e.symm (h.apart _ _ (by omega) (by omega))
      have e1 := Nat.div_add_mod (i - mu) lam
      have e2 := Nat.div_add_mod (j - mu) lam
      have : j - i = lam * ((j - mu) / lam - (i - mu) / lam) := by rw [Nat.mul_sub]; omega
      rw [this]; exact Nat.mul_mod_right _ _
    · exfalso
      by_cases hj : j < mu + lam
      · exact h.apart i j hij hj e
      · rw [h.red (i := j) (by omega)] at e
        have l2 := h.mod_lt (j - mu)
        exact h.apart _ _ (by omega) (by omega) e
  · rintro ⟨hi, hm⟩
    have e2 := Nat.div_add_mod (j - i) lam
    have : j = i + ((j - i) / lam) * lam := by rw [Nat.mul_comm]; omega
    rw [this]; exact (h.per_mul _ hi).symm
theorem RingIs.unique {mu' lam' : Nat} (h : RingIs f n mu lam) (h' : RingIs f n mu' lam') : mu = mu' ∧ lam = lam' := by
  have p := h.pos
  have p' := h'.pos
  have hs : mu + lam = mu' + lam' := by
    rcases Nat.lt_trichotomy (mu + lam) (mu' + lam') with x | x | x
    · exact absurd h.back.symm (h'.apart _ _ (by omega) x)
    · exact x
    · exact absurd h'.back.symm (h.apart _ _ (by omega) x)
  have hm : mu = mu' := by
    have e : itF f mu n = itF f mu' n := by rw [← h.back, hs, h'.back]
    rcases Nat.lt_trichotomy mu mu' with x | x | x
    · exact absurd e (h.apart _ _ x (by omega))
    · exact x
    · exact absurd e.symm (h.apart _ _ x (by omega))
  omega
/-- One step nearer. -/
theorem RingIs.step (h : RingIs f n mu lam) (h0 : 1 ≤ mu) : RingIs f (f n) (mu - 1) lam := by
  refine ⟨h.pos, ?_, fun i j hij hj => ?_⟩
  · rw [← itF_one, ← itF_one, show mu - 1 + lam + 1 = mu + lam by omega, show mu - 1 + 1 = mu by omega]; exact h.back
  · rw [← itF_one, ← itF_one]; exact h.apart _ _ (by omega) (by omega)
/-- Each number of the ring begins the same ring. -/
theorem RingIs.inner (h : RingIs f n mu lam) {k : Nat} (_hk : k < lam) : RingIs f (itF f (mu + k) n) 0 lam := by
  refine ⟨h.pos, ?_, fun i j hij hj => ?_⟩
  · rw [← itF_add, ← itF_add, show 0 + lam + (mu + k) = mu + k + lam by omega, show 0 + (mu + k) = mu + k by omega]; exact h.per (by omega)
  · rw [← itF_add, ← itF_add]
    intro e
    have := (h.eq_iff (i := i + (mu + k)) (j := j + (mu + k)) (by omega)).1 e
    have h2 := this.2
    rw [show j + (mu + k) - (i + (mu + k)) = j - i by omega, Nat.mod_eq_of_lt (by omega)] at h2
    omega
theorem ring_one (h : f n = n) : RingIs f n 0 1 := ⟨Nat.le_refl _, h, fun i j hij hj => by omega⟩
/-- Behind a negative number there is none but -1. -/
theorem neg_on (hneg : ∀ x, x < 0 → f x = -1) {k : Nat} (h : itF f k n < 0) : ∀ d, itF f (d + 1 + k) n = -1 := by
  intro d
  induction d with
  | zero => rw [Nat.add_comm 0 1, Nat.add_comm 1 k]; exact hneg _ h
  | succ d ih => rw [show d + 1 + 1 + k = (d + 1 + k) + 1 by omega, itF, ih]; exact hneg _ (by omega)
theorem RingIs.neg (h : RingIs f n mu lam) (hneg : ∀ x, x < 0 → f x = -1) {k : Nat} (hk : itF f k n < 0) : itF f mu n < 0 := by
  have p := h.pos
  have e := h.per_mul (k + 1) (Nat.le_refl mu)
  have hl : k + 1 ≤ (k + 1) * lam := Nat.le_mul_of_pos_right _ p
  obtain ⟨d, hd⟩ : ∃ d, mu + (k + 1) * lam = d + 1 + k := ⟨mu + (k + 1) * lam - (k + 1), by omega⟩
  rw [hd, neg_on hneg hk d] at e
  omega
/-- All distinct up to a number that is one of them: the ring is found. -/
theorem ring_found {j k : Nat} (hj : j ≤ k) (ha : ∀ a b, a < b → b ≤ k → itF f a n ≠ itF f b n) (he : itF f j n = itF f (k + 1) n) : RingIs f n j (k + 1 - j) :=
  ⟨by omega, by rw [show j + (k + 1 - j) = k + 1 by omega]; exact he.symm, fun a b hab hb => ha a b hab (by omega)⟩
/-- Where the slow and the fast walker meet. -/
theorem RingIs.meet (h : RingIs f n mu lam) {k : Nat} (h1 : 1 ≤ k) : itF f k n = itF f (2 * k) n ↔ mu ≤ k ∧ k % lam = 0 := by
  have := h.eq_iff (i := k) (j := 2 * k) (by omega)
  rwa [show 2 * k - k = k by omega] at this
theorem RingIs.meets (h : RingIs f n mu lam) : ∃ K, 1 ≤ K ∧ K ≤ mu + lam ∧ itF f K n = itF f (2 * K) n := by
  have p := h.pos
  have e := Nat.div_add_mod mu lam
  have l := h.mod_lt mu
  have e2 : (mu / lam + 1) * lam = lam * (mu / lam) + lam := by rw [Nat.succ_mul, Nat.mul_comm]
  refine ⟨(mu / lam + 1) * lam, by omega, by omega, (h.meet (by omega)).2 ⟨by omega, Nat.mul_mod_left _ _⟩⟩
theorem RingIs.enter (h : RingIs f n mu lam) {k s : Nat} (h1 : 1 ≤ k) (hk : k % lam = 0) (hs : s ≤ mu) : itF f s n = itF f (k + s) n ↔ s = mu := by
  have := h.eq_iff (i := s) (j := k + s) (by omega)
  rw [show k + s - s = k by omega] at this
  rw [this]
  constructor
  · rintro ⟨a, -⟩; omega
  · rintro rfl; exact ⟨Nat.le_refl _, hk⟩
theorem RingIs.round (h : RingIs f n mu lam) {i : Nat} (h1 : 1 ≤ i) (hi : i ≤ lam) : itF f (mu + i) n = itF f mu n ↔ i = lam := by
  constructor
  · intro e
    by_cases hl : i = lam
    · exact hl
    · exact absurd e.symm (h.apart _ _ (by omega) (by omega))
  · rintro rfl; exact h.back
end

/-- Of one number more than places two lie at one place. -/
theorem two_at_one : ∀ (N : Nat) (g : Nat → Nat), (∀ i, i < N + 1 → g i < N) → ∃ i j, i < j ∧ j < N + 1 ∧ g i = g j := by
  intro N
  induction N with
  | zero => intro g h; exact absurd (h 0 (by omega)) (by omega)
  | succ N ih =>
    intro g h
    by_cases hc : ∃ i, i < N + 1 ∧ g i = g (N + 1)
    · obtain ⟨i, hi, e⟩ := hc
      exact ⟨i, N + 1, hi, by omega, e⟩
    · have hne : ∀ i, i < N + 1 → g i ≠ g (N + 1) := fun i hi e => hc ⟨i, hi, e⟩
      have hlast := h (N + 1) (by omega)
      obtain ⟨i, j, hij, hj, e⟩ := ih (fun i => if g i = N then g (N + 1) else g i) (fun i hi => by
        have h1 := h i (by omega)
        have h2 := hne i hi
        by_cases e : g i = N
        · simp only [e, if_true]; omega
        · simp only [e, if_false]; omega)
      refine ⟨i, j, hij, by omega, ?_⟩
      have h1 := hne i (by omega)
      have h2 := hne j hj
      by_cases e1 : g i = N <;> by_cases e2 : g j = N <;> simp only [e1, e2, if_true, if_false] at e <;> omega
theorem least_of {p : Nat → Prop} : ∀ m, p m → ∃ k, k ≤ m ∧ p k ∧ ∀ j, j < k → ¬ p j := by
  intro m
  induction m using Nat.strongRecOn with
  | _ m ih =>
    intro h
    by_cases hc : ∃ j, j < m ∧ p j
    · obtain ⟨j, hj, hp⟩ := hc
      obtain ⟨k, hk, h1, h2⟩ := ih j hj hp
      exact ⟨k, by omega, h1, h2⟩
    · exact ⟨m, Nat.le_refl _, h, fun j hj hp => hc ⟨j, hj, hp⟩⟩
/-- Some number comes again. -/
theorem ring_ex (f : Int → Int) (hf : ∀ x, -1 ≤ f x ∧ f x ≤ 320) (n : Int) : ∃ mu lam, RingIs f n mu lam ∧ mu + lam ≤ 323 := by
  obtain ⟨a, b, hab, hb, e⟩ := two_at_one 322 (fun i => (itF f (i + 1) n + 1).toNat) (fun i _ => by
    have := hf (itF f i n)
    show (f (itF f i n) + 1).toNat < 322
    omega)
  have he : itF f (a + 1) n = itF f (b + 1) n := by
    have h1 := hf (itF f a n)
    have h2 := hf (itF f b n)
    have e' : (f (itF f a n) + 1).toNat = (f (itF f b n) + 1).toNat := e
    show f (itF f a n) = f (itF f b n)
    omega
  obtain ⟨k, hk, ⟨i, hi, hik⟩, hmin⟩ := least_of (p := fun j => ∃ i, i < j ∧ itF f i n = itF f j n) (b + 1) ⟨a + 1, by omega, he⟩
  refine ⟨i, k - i, ⟨by omega, by rw [show i + (k - i) = k by omega]; exact hik.symm, fun x y hxy hy e => hmin y (by omega) ⟨x, hxy, e⟩⟩, by omega⟩

noncomputable def rhoF (f : Int → Int) (n : Int) : Nat × Nat := Classical.epsilon fun p => RingIs f n p.1 p.2
noncomputable def muF (f : Int → Int) (n : Int) : Nat := (rhoF f n).1
noncomputable def lamF (f : Int → Int) (n : Int) : Nat := (rhoF f n).2
theorem RingIs.the {f : Int → Int} {n : Int} {mu lam : Nat} (h : RingIs f n mu lam) : muF f n = mu ∧ lamF f n = lam := by
  have : RingIs f n (rhoF f n).1 (rhoF f n).2 := Classical.epsilon_spec (p := fun p : Nat × Nat => RingIs f n p.1 p.2) ⟨(mu, lam), h⟩
  exact this.unique h
theorem ring_is (f : Int → Int) (hf : ∀ x, -1 ≤ f x ∧ f x ≤ 320) (n : Int) : RingIs f n (muF f n) (lamF f n) ∧ muF f n + lamF f n ≤ 323 := by
  obtain ⟨mu, lam, h, hl⟩ := ring_ex f hf n
  obtain ⟨e1, e2⟩ := h.the
  rw [e1, e2]; exact ⟨h, hl⟩

/-- Whether there is a ring that counts: its numbers are none of them negative, and it is closed within 200 steps. -/
noncomputable def okF (f : Int → Int) (n : Int) : Bool := decide (0 ≤ itF f (muF f n) n ∧ muF f n + lamF f n ≤ 200)
noncomputable def ringF (f : Int → Int) (n : Int) : List Int := if okF f n then (List.range (lamF f n)).map fun i => itF f (muF f n + i) n else []
noncomputable def stepsF (f : Int → Int) (n : Int) : Int := if okF f n then (muF f n : Int) else -1
section
variable {f : Int → Int} {n : Int} {mu lam : Nat}
theorem RingIs.ok (h : RingIs f n mu lam) : okF f n = decide (0 ≤ itF f mu n ∧ mu + lam ≤ 200) := by
  unfold okF; rw [h.the.1, h.the.2]
theorem RingIs.ring (h : RingIs f n mu lam) (ho : okF f n = true) : ringF f n = (List.range lam).map (fun i => itF f (mu + i) n) := by
  unfold ringF; rw [if_pos ho, h.the.1, h.the.2]
theorem RingIs.steps (h : RingIs f n mu lam) (ho : okF f n = true) : stepsF f n = mu := by
  unfold stepsF; rw [if_pos ho, h.the.1]
theorem ring_no (ho : okF f n = false) : ringF f n = [] ∧ stepsF f n = -1 := by
  unfold ringF stepsF; rw [ho]; exact ⟨rfl, rfl⟩
theorem RingIs.ok_le (h : RingIs f n mu lam) (ho : okF f n = true) : 0 ≤ itF f mu n ∧ mu + lam ≤ 200 := by
  rw [h.ok] at ho; exact of_decide_eq_true ho
/-- A negative number on the way: there is no ring that counts. -/
theorem ok_neg (hf : ∀ x, -1 ≤ f x ∧ f x ≤ 320) (hneg : ∀ x, x < 0 → f x = -1) {k : Nat} (hk : itF f k n < 0) : okF f n = false := by
  obtain ⟨h, -⟩ := ring_is f hf n
  have := h.neg hneg hk
  rw [h.ok]; exact decide_eq_false (by omega)
/-- All distinct for more than 200 steps: the same. -/
theorem ok_late (hf : ∀ x, -1 ≤ f x ∧ f x ≤ 320) (ha : ∀ a b, a < b → b ≤ 200 → itF f a n ≠ itF f b n) : okF f n = false := by
  obtain ⟨h, -⟩ := ring_is f hf n
  have hp := h.pos
  rw [h.ok]
  refine decide_eq_false fun hc => ?_
  exact ha _ _ (by omega) hc.2 h.back.symm
theorem ok_pos (hf : ∀ x, -1 ≤ f x ∧ f x ≤ 320) (hneg : ∀ x, x < 0 → f x = -1) (ho : okF f n = true) (k : Nat) : 0 ≤ itF f k n := by
  rcases Int.lt_or_le (itF f k n) 0 with h | h
  · rw [ok_neg hf hneg h] at ho; cases ho
  · exact h
theorem ringF_len : (ringF f n).length = if okF f n then lamF f n else 0 := by
  unfold ringF; split <;> simp
theorem ringF_pos (hf : ∀ x, -1 ≤ f x ∧ f x ≤ 320) : decide (0 < (ringF f n).length) = okF f n := by
  obtain ⟨h, -⟩ := ring_is f hf n
  have hp := h.pos
  rw [ringF_len]
  cases okF f n
  · rfl
  · exact decide_eq_true hp
theorem ringF_le (hf : ∀ x, -1 ≤ f x ∧ f x ≤ 320) : (ringF f n).length ≤ 200 := by
  obtain ⟨h, -⟩ := ring_is f hf n
  rw [ringF_len]
  cases ho : okF f n
  · simp
  · have := h.ok_le ho; simp; omega
theorem ringF_at (ho : okF f n = true) {i : Nat} (hi : i < lamF f n) : (ringF f n).getD i 0 = itF f (muF f n + i) n := by
  unfold ringF; rw [if_pos ho]
  simp [List.getD_eq_getElem?_getD, hi]
/-- A ring's numbers. -/
theorem ringF_bd (hf : ∀ x, -1 ≤ f x ∧ f x ≤ 320) (hn : -9223372036854775808 ≤ n ∧ n ≤ 9223372036854775807) : ∀ x ∈ ringF f n, -9223372036854775808 ≤ x ∧ x ≤ 9223372036854775807 := by
  intro x hx
  unfold ringF at hx
  split at hx
  · obtain ⟨i, -, rfl⟩ := List.mem_map.1 hx
    cases h : muF f n + i with
    | zero => exact hn
    | succ k => have := hf (itF f k n); show _ ≤ f _ ∧ f _ ≤ _; omega
  · cases hx
/-- The ring from one of its numbers on. -/
theorem ring_turn (hf : ∀ x, -1 ≤ f x ∧ f x ≤ 320) (hneg : ∀ x, x < 0 → f x = -1) (ho : okF f n = true) {k : Nat} (hk : k < lamF f n) :
    okF f ((ringF f n).getD k 0) = true ∧ ringF f ((ringF f n).getD k 0) = (ringF f n).drop k ++ (ringF f n).take k := by
  obtain ⟨h, -⟩ := ring_is f hf n
  have hle := h.ok_le ho
  rw [ringF_at ho hk]
  have hi := h.inner hk
  have ho' : okF f (itF f (muF f n + k) n) = true := by
    rw [hi.ok]
    exact decide_eq_true ⟨ok_pos hf hneg ho _, by omega⟩
  refine ⟨ho', ?_⟩
  rw [hi.ring ho', h.ring ho]
  apply List.ext_getElem
  · simp; omega
  · intro i h1 h2
    simp only [List.length_map, List.length_range] at h1
    rw [List.getElem_append]
    split
    · rename_i hlt
      simp only [List.length_drop, List.length_map, List.length_range] at hlt
      simp only [List.getElem_map, List.getElem_range, List.getElem_drop]
      rw [← itF_add]
      congr 1; omega
    · rename_i hlt
      simp only [List.length_drop, List.length_map, List.length_range] at hlt
      simp only [List.getElem_map, List.getElem_range, List.getElem_take, List.length_drop, List.length_map, List.length_range]
      rw [← itF_add, show 0 + i + (muF f n + k) = muF f n + (i - (lamF f n - k)) + lamF f n by omega]
      exact h.per (by omega)
/-- The next one of a ring. -/
theorem ring_next (hf : ∀ x, -1 ≤ f x ∧ f x ≤ 320) (ho : okF f n = true) {k : Nat} (hk : k < lamF f n) : f ((ringF f n).getD k 0) = (ringF f n).getD ((k + 1) % lamF f n) 0 := by
  obtain ⟨h, -⟩ := ring_is f hf n
  have hp := h.pos
  rw [ringF_at ho hk, ringF_at ho (Nat.mod_lt _ hp)]
  by_cases hl : k + 1 = lamF f n
  · rw [hl, Nat.mod_self]
    have := h.back
    rw [← hl] at this
    exact this
  · rw [Nat.mod_eq_of_lt (by omega)]; rfl
theorem ring_apart (hf : ∀ x, -1 ≤ f x ∧ f x ≤ 320) (ho : okF f n = true) {j k : Nat} (hj : j < k) (hk : k < lamF f n) : (ringF f n).getD j 0 ≠ (ringF f n).getD k 0 := by
  obtain ⟨h, -⟩ := ring_is f hf n
  rw [ringF_at ho (by omega), ringF_at ho hk]
  exact h.apart _ _ (by omega) (by omega)
/-- A number that is its own letters. -/
theorem ring_true (h : f n = n) (hn : 0 ≤ n) : okF f n = true ∧ ringF f n = [n] := by
  have hr := ring_one h
  have ho : okF f n = true := by rw [hr.ok]; exact decide_eq_true ⟨hn, by omega⟩
  exact ⟨ho, by rw [hr.ring ho]; rfl⟩
/-- One step nearer to the ring. -/
theorem steps_next (hf : ∀ x, -1 ≤ f x ∧ f x ≤ 320) (ho : okF f n = true) (h0 : stepsF f n ≠ 0) : okF f (f n) = true ∧ stepsF f (f n) = stepsF f n - 1 := by
  obtain ⟨h, -⟩ := ring_is f hf n
  have hle := h.ok_le ho
  rw [h.steps ho] at h0
  have hs := h.step (by omega)
  have ho' : okF f (f n) = true := by
    rw [hs.ok, ← itF_one]
    refine decide_eq_true ⟨?_, by omega⟩
    rw [show muF f n - 1 + 1 = muF f n by omega]; exact hle.1
  refine ⟨ho', ?_⟩
  rw [hs.steps ho', h.steps ho]
  omega
theorem steps_zero (hf : ∀ x, -1 ≤ f x ∧ f x ≤ 320) (ho : okF f n = true) : n ∈ ringF f n ↔ stepsF f n = 0 := by
  obtain ⟨h, -⟩ := ring_is f hf n
  have hp := h.pos
  rw [h.ring ho, h.steps ho]
  constructor
  · intro hm
    obtain ⟨i, hi, e⟩ := List.mem_map.1 hm
    have hi' := List.mem_range.1 hi
    by_cases h0 : muF f n = 0
    · omega
    · exact absurd e.symm (h.apart 0 _ (by omega) (by omega))
  · intro h0
    have h0' : muF f n = 0 := by omega
    refine List.mem_map.2 ⟨0, List.mem_range.2 hp, ?_⟩
    rw [h0']; rfl
/-- Which of the numbers lie in the ring. -/
theorem RingIs.mem (h : RingIs f n mu lam) (ho : okF f n = true) (k : Nat) : itF f k n ∈ ringF f n ↔ mu ≤ k := by
  rw [h.ring ho]
  constructor
  · intro hm
    obtain ⟨i, hi, e⟩ := List.mem_map.1 hm
    have hi' := List.mem_range.1 hi
    rcases Nat.lt_or_ge k mu with hk | hk
    · exact absurd e.symm (h.apart k _ (by omega) (by omega))
    · exact hk
  · intro hk
    refine List.mem_map.2 ⟨(k - mu) % lam, List.mem_range.2 (h.mod_lt _), (h.red hk).symm⟩
end
end Go.Proofs.Ytjnlpknjdclalaa
