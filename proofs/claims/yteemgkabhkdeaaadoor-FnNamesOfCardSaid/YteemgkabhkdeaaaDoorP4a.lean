/-
  The program's reader, as plain mathematics: sums by bases; it reads the name of a number as the number.
-/
import Derived.Test.YteemgkabhkdeaaaDoorR5
namespace Go.Proofs.YteemgkabhkdeaaaDoor
open Go.RowKit

def sumTo' (s : List Int) : Nat → Int
  | 0 => 0
  | k + 1 => sumTo' s k + s.getD k 0
def zeroTo (s : List Int) (p : Nat) : List Int := List.replicate p 0 ++ s.drop p
/-- A unit is read. -/
def addOn (s : List Int) (u : Int) : List Int := s.set 0 (s.getD 0 0 + u)
def timesOf (s : List Int) (p : Nat) : Int := if sumTo' s p = 0 then 1 else sumTo' s p
/-- The name of a base is read. -/
def takeOn (b : List Int) (s : List Int) (p : Nat) : Option (List Int) :=
  if 99999 / b.getD p 0 < timesOf s p then none else some ((zeroTo s p).set p (s.getD p 0 + timesOf s p * b.getD p 0))
def stepOn (t : Tg) (s : List Int) (x : ByteArray) : Option (List Int) :=
  if place t.us x < t.us.length then some (addOn s ((place t.us x : Int) + 1))
  else if place t.ns x < t.ns.length then takeOn t.bs s (place t.ns x + 1) else none
def readL (t : Tg) : List ByteArray → List Int → Option (List Int)
  | [], s => some s
  | x :: r, s => (stepOn t s x).bind (readL t r)
def noSums : List Int := [0, 0, 0, 0, 0]
def numR (t : Tg) (l : List ByteArray) : Option Int := (readL t l noSums).map fun s => sumTo' s 5

theorem readL_append (t : Tg) : ∀ (l m : List ByteArray) (s : List Int), readL t (l ++ m) s = (readL t l s).bind (readL t m)
  | [], _, _ => rfl
  | x :: r, m, s => by
    rw [List.cons_append, readL, readL]
    cases stepOn t s x with
    | none => rfl
    | some s1 => exact readL_append t r m s1
theorem readL_one (t : Tg) (x : ByteArray) (s : List Int) : readL t [x] s = stepOn t s x := by
  rw [readL]
  cases stepOn t s x <;> rfl
theorem readL_snoc (t : Tg) (l : List ByteArray) (s : List Int) {k : Nat} (hk : k < l.length) : readL t (l.take (k + 1)) s = (readL t (l.take k) s).bind fun s' => stepOn t s' (l.getD k ByteArray.empty) := by
  rw [List.take_succ_eq_append_getElem hk, readL_append]
  have e : l.getD k ByteArray.empty = l[k] := by simp [List.getD_eq_getElem?_getD, hk]
  rw [e]
  congr 1
  funext s'
  exact readL_one t _ s'
theorem readL_none (t : Tg) (l : List ByteArray) (s : List Int) {k : Nat} (h : readL t (l.take k) s = none) : readL t l s = none := by
  rw [← List.take_append_drop k l, readL_append, h]; rfl

theorem getD_set (s : List Int) (i j : Nat) (x : Int) (hi : i < s.length) : (s.set i x).getD j 0 = if i = j then x else s.getD j 0 := by
  simp only [List.getD_eq_getElem?_getD, List.getElem?_set]
  by_cases h : i = j
  · subst h; simp [hi]
  · simp [h]
theorem zeroTo_len (s : List Int) (p : Nat) (_h : p ≤ s.length) : (zeroTo s p).length = s.length := by unfold zeroTo; simp; omega
theorem getD_zeroTo (s : List Int) (p j : Nat) (_h : p ≤ s.length) : (zeroTo s p).getD j 0 = if j < p then 0 else s.getD j 0 := by
  unfold zeroTo
  simp only [List.getD_eq_getElem?_getD]
  by_cases hj : j < p
  · rw [List.getElem?_append_left (by simpa using hj), if_pos hj]; simp [hj]
  · rw [List.getElem?_append_right (by simp; omega), if_neg hj]
    simp only [List.length_replicate, List.getElem?_drop]
    rw [show p + (j - p) = j by omega]
theorem sumTo_ext {s s' : List Int} : ∀ k, (∀ i, i < k → s.getD i 0 = s'.getD i 0) → sumTo' s k = sumTo' s' k
  | 0, _ => rfl
  | k + 1, h => by rw [sumTo', sumTo', sumTo_ext k (fun i hi => h i (by omega)), h k (by omega)]
theorem sumTo_flat {s : List Int} (a : Nat) : ∀ b, a ≤ b → (∀ i, a ≤ i → i < b → s.getD i 0 = 0) → sumTo' s b = sumTo' s a
  | 0, h, _ => by rw [show a = 0 by omega]
  | b + 1, h, hz => by
    by_cases e : a = b + 1
    · rw [e]
    · rw [sumTo', sumTo_flat a b (by omega) (fun i h1 h2 => hz i h1 (by omega)), hz b (by omega) (by omega)]
      omega
theorem sumTo_zero {s : List Int} {k : Nat} (h : ∀ i, i < k → s.getD i 0 = 0) : sumTo' s k = 0 :=
  sumTo_flat 0 k (by omega) fun i _ hi => h i hi

/-- What holds of the sums behind k words. -/
structure SumOk (s : List Int) (k : Nat) : Prop where
  len : s.length = 5
  bd : ∀ i, 0 ≤ s.getD i 0 ∧ s.getD i 0 ≤ 100000 * (k : Int)
theorem noSums_ok : SumOk noSums 0 := ⟨rfl, fun i => by
  match i with
  | 0 => decide
  | 1 => decide
  | 2 => decide
  | 3 => decide
  | 4 => decide
  | i + 5 => simp [noSums]⟩
theorem SumOk.sum {s : List Int} {k : Nat} (h : SumOk s k) : ∀ j, j ≤ 5 → 0 ≤ sumTo' s j ∧ sumTo' s j ≤ 100000 * (k : Int) * j := by
  intro j
  induction j with
  | zero => intro _; exact ⟨Int.le_refl _, by simp [sumTo']⟩
  | succ j ih =>
    intro hj
    have h1 := ih (by omega)
    have h2 := h.bd j
    rw [sumTo']
    have e : (100000 * (k : Int)) * ((j + 1 : Nat) : Int) = 100000 * (k : Int) * j + 100000 * (k : Int) := by
      rw [show ((j + 1 : Nat) : Int) = (j : Int) + 1 by omega, Int.mul_add, Int.mul_one]
    omega
theorem times_pos {s : List Int} {k : Nat} (h : SumOk s k) {p : Nat} (hp : p ≤ 5) : 1 ≤ timesOf s p := by
  have := (h.sum p hp).1
  unfold timesOf
  split <;> omega
theorem addOn_ok {s : List Int} {k : Nat} (h : SumOk s k) {u : Int} (h0 : 0 ≤ u) (h1 : u ≤ 100000) : SumOk (addOn s u) (k + 1) := by
  refine ⟨by unfold addOn; rw [List.length_set]; exact h.len, fun i => ?_⟩
  unfold addOn
  rw [getD_set _ _ _ _ (by rw [h.len]; omega)]
  have a := h.bd 0
  have b := h.bd i
  split <;> omega
theorem times_mul {s : List Int} {k : Nat} (h : SumOk s k) {p : Nat} (hp : p < 5) {b : Int} (hb : 1 ≤ b) (ht : ¬ 99999 / b < timesOf s p) : 0 ≤ timesOf s p * b ∧ timesOf s p * b ≤ 99999 := by
  have h1 := times_pos h (p := p) (by omega)
  have h2 : timesOf s p ≤ 99999 / b := by omega
  have h3 := Int.mul_le_mul_of_nonneg_right h2 (show (0 : Int) ≤ b by omega)
  have h4 := Int.ediv_mul_le 99999 (show b ≠ 0 by omega)
  have h5 := Int.mul_nonneg (show 0 ≤ timesOf s p by omega) (show (0 : Int) ≤ b by omega)
  omega
theorem takeOn_ok {s s' : List Int} {k : Nat} (h : SumOk s k) {b : List Int} {p : Nat} (hp : p < 5) (hb : 1 ≤ b.getD p 0) (e : takeOn b s p = some s') : SumOk s' (k + 1) := by
  unfold takeOn at e
  split at e
  · cases e
  · rename_i ht
    cases e
    have hm := times_mul h hp hb ht
    have hl := h.len
    refine ⟨by rw [List.length_set, zeroTo_len _ _ (by omega)]; exact hl, fun i => ?_⟩
    rw [getD_set _ _ _ _ (by rw [zeroTo_len _ _ (by omega)]; omega), getD_zeroTo _ _ _ (by omega)]
    have a := h.bd p
    have b := h.bd i
    split
    · omega
    · split <;> omega
theorem place_base {t : Tg} (hok : t.ok = true) {x : ByteArray} (h : place t.ns x < t.ns.length) : place t.ns x + 1 < t.bs.length ∧ place t.ns x + 1 < 5 := by
  have hs := ok_shape hok
  have := bases_len hs.bs
  have := hs.ns
  omega
theorem stepOn_ok {t : Tg} (hok : t.ok = true) {s s' : List Int} {k : Nat} (h : SumOk s k) {x : ByteArray} (e : stepOn t s x = some s') : SumOk s' (k + 1) := by
  have hs := ok_shape hok
  have hu := hs.us
  unfold stepOn at e
  split at e
  · cases e
    exact addOn_ok h (by omega) (by omega)
  · split at e
    · rename_i hx
      have hp := place_base hok hx
      exact takeOn_ok h hp.2 (bases_pos hs.bs _ hp.1).1 e
    · cases e

theorem place_none_us {t : Tg} (hok : t.ok = true) {x : ByteArray} (hx : x ∈ t.ns) : ¬ place t.us x < t.us.length := fun h => by
  have hd := (List.nodup_append.1 ((ok_iff t).1 hok).2.2.2.2.2).2.2
  exact hd x (place_mem.1 h) x hx rfl
theorem place_nodup {ws : List ByteArray} (hd : ws.Nodup) {j : Nat} (hj : j < ws.length) : place ws (ws.getD j ByteArray.empty) = j :=
  place_eq hj (fun i hi e => by
    have hi' : i < ws.length := by omega
    rw [List.getD_eq_getElem?_getD, List.getD_eq_getElem?_getD, List.getElem?_eq_getElem hi', List.getElem?_eq_getElem hj] at e
    exact (List.pairwise_iff_getElem.1 hd) i j hi' hj hi (by simpa using e)) rfl

/-- The name of a number is read as the number. -/
theorem readL_name {t : Tg} (hok : t.ok = true) : ∀ n : Nat, 1 ≤ n → n ≤ 99999 → nameT t n ≠ [] → ∀ s : List Int, s.length = 5 → (∀ i, i ≤ topOf t.bs n → s.getD i 0 = 0) →
    ∃ s', readL t (nameT t n) s = some s' ∧ s'.length = 5 ∧ (∀ i, topOf t.bs n < i → s'.getD i 0 = s.getD i 0) ∧ sumTo' s' (topOf t.bs n + 1) = n := by
  have hsh := ok_shape hok
  have hb := hsh.bs
  have hns := hsh.ns
  have hbl := bases_len hb
  have hdd := List.nodup_append.1 ((ok_iff t).1 hok).2.2.2.2.2
  intro n
  induction n using Nat.strongRecOn with
  | _ n ih =>
    intro hn hn2 hne s hsl hsz
    by_cases ht : topOf t.bs n = 0
    · have hu := name_unit (us := t.us) (ns := t.ns) ht
      have hlt : ¬ t.us.length < n := fun h => by rw [nameT, hu, if_pos h] at hne; exact hne rfl
      have hn1 : n - 1 < t.us.length := by omega
      have e : nameT t n = [t.us.getD (n - 1) ByteArray.empty] := by rw [nameT, hu, if_neg hlt]
      have hp := place_nodup hdd.1 hn1
      have h0 := hsz 0 (by omega)
      rw [e, readL_one, ht]
      refine ⟨addOn s (((n - 1 : Nat) : Int) + 1), ?_, ?_, fun i hi => ?_, ?_⟩
      · unfold stepOn
        rw [hp, if_pos hn1]
      · unfold addOn; rw [List.length_set]; exact hsl
      · unfold addOn
        rw [getD_set _ _ _ _ (by omega), if_neg (by omega)]
      · rw [sumTo', sumTo']
        unfold addOn
        rw [getD_set _ _ _ _ (by omega), if_pos rfl, h0]
        omega
    · obtain ⟨g1, g2, g3⟩ := name_some hb ht hne
      have hf := base_facts hb ht
      have hd := div_pos' hf.1 hf.2.1
      have hp := name_parts hb ht g1 g2 g3
      have hq : topOf t.bs (n / baseN t.bs n : Nat) < topOf t.bs n := topOf_lt hb hf.2.2.2.1 hf.2.2.2.2 (by rw [← hf.2.2.1]; omega)
      have hr : topOf t.bs (n % baseN t.bs n : Nat) < topOf t.bs n := topOf_lt hb hf.2.2.2.1 hf.2.2.2.2 (by rw [← hf.2.2.1]; have := Nat.mod_lt n (show 0 < baseN t.bs n by omega); omega)
      have hmul : (baseN t.bs n : Int) * ((n / baseN t.bs n : Nat) : Int) + ((n % baseN t.bs n : Nat) : Int) = n := by
        have := Nat.div_add_mod n (baseN t.bs n)
        exact_mod_cast this
      have hp' : nameT t n = _ := hp
      have hqn : (n / baseN t.bs n : Nat) ≤ 99999 / baseN t.bs n := Nat.div_le_div_right hn2
      -- how often
      obtain ⟨s1, r1, l1, z1, y1, t1⟩ : ∃ s1, readL t (if 1 < n / baseN t.bs n then nameN t.us t.bs t.ns (n / baseN t.bs n) else []) s = some s1 ∧ s1.length = 5 ∧ (∀ i, topOf t.bs n ≤ i → s1.getD i 0 = s.getD i 0) ∧ 0 ≤ sumTo' s1 (topOf t.bs n) ∧ timesOf s1 (topOf t.bs n) = (n / baseN t.bs n : Nat) := by
        by_cases h1 : 1 < n / baseN t.bs n
        · obtain ⟨s1, r1, l1, z1, y1⟩ := ih _ hd.2.1 hd.1 (by omega) (g2 h1) s hsl (fun i hi => hsz i (by omega))
          have e1 : sumTo' s1 (topOf t.bs n) = (n / baseN t.bs n : Nat) := by
            rw [sumTo_flat (topOf t.bs (n / baseN t.bs n : Nat) + 1) (topOf t.bs n) (by omega) (fun i h2 h3 => by rw [z1 i (by omega)]; exact hsz i (by omega)), y1]
          refine ⟨s1, by rw [if_pos h1]; exact r1, l1, fun i hi => z1 i (by omega), by omega, ?_⟩
          unfold timesOf
          rw [e1, if_neg (by omega)]
        · have e1 : sumTo' s (topOf t.bs n) = 0 := sumTo_zero fun i hi => hsz i (by omega)
          refine ⟨s, by rw [if_neg h1]; rfl, hsl, fun i _ => rfl, by omega, ?_⟩
          unfold timesOf
          rw [e1, if_pos rfl]
          have := hd.1
          omega
      -- the base
      have hj : topOf t.bs n - 1 < t.ns.length := by omega
      have hk5 : topOf t.bs n < 5 := by omega
      have hx : t.ns.getD (topOf t.bs n - 1) ByteArray.empty ∈ t.ns := by rw [List.getD_eq_getElem?_getD, List.getElem?_eq_getElem hj]; exact List.getElem_mem hj
      have hpl := place_nodup hdd.2.1 hj
      have r2 : stepOn t s1 (t.ns.getD (topOf t.bs n - 1) ByteArray.empty) = some ((zeroTo s1 (topOf t.bs n)).set (topOf t.bs n) ((n / baseN t.bs n : Nat) * (baseN t.bs n : Int))) := by
        unfold stepOn takeOn
        rw [if_neg (place_none_us hok hx), hpl, if_pos hj, show topOf t.bs n - 1 + 1 = topOf t.bs n by omega, t1, ← hf.2.2.1, if_neg (by
          have : (99999 : Int) / (baseN t.bs n : Int) = ((99999 / baseN t.bs n : Nat) : Int) := rfl
          omega), z1 _ (Nat.le_refl _), hsz _ (Nat.le_refl _), Int.zero_add]
      obtain ⟨s2, hs2⟩ : ∃ s2, s2 = (zeroTo s1 (topOf t.bs n)).set (topOf t.bs n) ((n / baseN t.bs n : Nat) * (baseN t.bs n : Int)) := ⟨_, rfl⟩
      rw [← hs2] at r2
      have l2 : s2.length = 5 := by rw [hs2, List.length_set, zeroTo_len _ _ (by omega)]; exact l1
      have v2 : ∀ i, s2.getD i 0 = if topOf t.bs n = i then ((n / baseN t.bs n : Nat) * (baseN t.bs n : Int)) else if i < topOf t.bs n then 0 else s1.getD i 0 := fun i => by
        rw [hs2, getD_set _ _ _ _ (by rw [zeroTo_len _ _ (by omega)]; omega), getD_zeroTo _ _ _ (by omega)]
      have v2t : s2.getD (topOf t.bs n) 0 = (n / baseN t.bs n : Nat) * (baseN t.bs n : Int) := by rw [v2, if_pos rfl]
      have v2l : ∀ i, i < topOf t.bs n → s2.getD i 0 = 0 := fun i hi => by rw [v2, if_neg (by omega), if_pos hi]
      have v2g : ∀ i, topOf t.bs n < i → s2.getD i 0 = s.getD i 0 := fun i hi => by rw [v2, if_neg (by omega), if_neg (by omega), z1 i (by omega)]
      rw [hp', readL_append, readL_append, r1, Option.bind_some, readL_one, r2, Option.bind_some]
      by_cases h0 : n % baseN t.bs n = 0
      · rw [if_pos h0]
        refine ⟨s2, rfl, l2, v2g, ?_⟩
        rw [sumTo', sumTo_zero v2l, v2t, Int.mul_comm]
        omega
      · rw [if_neg h0]
        obtain ⟨s3, r3, l3, z3, y3⟩ := ih _ hd.2.2.1 (by omega) (by omega) (g3 h0) s2 l2 (fun i hi => v2l i (by omega))
        refine ⟨s3, r3, l3, fun i hi => by rw [z3 i (by omega)]; exact v2g i hi, ?_⟩
        rw [sumTo', z3 _ (by omega), v2t, sumTo_flat (topOf t.bs (n % baseN t.bs n : Nat) + 1) (topOf t.bs n) (by omega) (fun i h2 h3 => by rw [z3 i (by omega)]; exact v2l i h3), y3, Int.mul_comm]
        omega

theorem numR_name {t : Tg} (hok : t.ok = true) {n : Nat} (h1 : 1 ≤ n) (h2 : n ≤ 99999) (hne : nameT t n ≠ []) : numR t (nameT t n) = some (n : Int) := by
  have hb := (ok_shape hok).bs
  have hbl := bases_len hb
  have hz : ∀ i, noSums.getD i 0 = 0 := fun i => by have := noSums_ok.bd i; omega
  obtain ⟨s, r, l, z, y⟩ := readL_name hok n h1 h2 hne noSums rfl (fun i _ => hz i)
  have ht : topOf t.bs n < t.bs.length := by
    by_cases ht : topOf t.bs n = 0
    · omega
    · exact (base_facts hb ht).2.2.2.1
  unfold numR
  rw [r, Option.map_some, sumTo_flat (topOf t.bs n + 1) 5 (by omega) (fun i h3 h4 => by rw [z i (by omega)]; exact hz i), y]

/-- What is read, and named again, is the name. -/
theorem num_no {t : Tg} {l : List ByteArray} (h : numR t l = none) : readB t l = false := by
  cases hb : readB t l
  · rfl
  · obtain ⟨hok, hn, he, -, -⟩ := read_yes hb
    obtain ⟨-, a1, a2⟩ := named_ok hn
    obtain ⟨m, hm⟩ : ∃ m : Nat, readV t l = m := ⟨(readV t l).toNat, by omega⟩
    rw [hm] at hn he a1 a2
    obtain ⟨ho, hne⟩ := named_ne hn
    rw [nameOf_yes ho] at he
    have := numR_name hok (n := m) (by omega) (by omega) hne
    rw [he, h] at this
    cases this
theorem num_read {t : Tg} {l : List ByteArray} {n : Int} (h : numR t l = some n) (hl : l.length ≤ 40) : readB t l = (namedB t n && decide (nameOf t n = l)) ∧ (readB t l = true → readV t l = n) := by
  have e2 : readB t l = true → readV t l = n := fun hb => by
    obtain ⟨hok, hn, he, -, -⟩ := read_yes hb
    obtain ⟨-, a1, a2⟩ := named_ok hn
    obtain ⟨m, hm⟩ : ∃ m : Nat, readV t l = m := ⟨(readV t l).toNat, by omega⟩
    rw [hm] at hn he a1 a2 ⊢
    obtain ⟨ho, hne⟩ := named_ne hn
    rw [nameOf_yes ho] at he
    have := numR_name hok (n := m) (by omega) (by omega) hne
    rw [he, h] at this
    cases this
    rfl
  refine ⟨?_, e2⟩
  cases hb : readB t l
  · cases hn : namedB t n
    · rfl
    · rw [Bool.true_and]
      symm
      refine decide_eq_false fun he => ?_
      have := (read_name hn (by rw [he]; exact hl)).1
      rw [he, hb] at this
      cases this
  · obtain ⟨-, hn, he, -, -⟩ := read_yes hb
    rw [e2 hb] at hn he
    rw [hn, decide_eq_true he]; rfl
theorem readL_bd {t : Tg} (hok : t.ok = true) (l : List ByteArray) : ∀ k, k ≤ l.length → ∀ s, readL t (l.take k) noSums = some s → SumOk s k := by
  intro k
  induction k with
  | zero => intro _ s e; cases e; exact noSums_ok
  | succ k ih =>
    intro hk s e
    rw [readL_snoc _ _ _ (by omega)] at e
    cases h : readL t (l.take k) noSums with
    | none => rw [h] at e; cases e
    | some s' => rw [h] at e; exact stepOn_ok hok (ih (by omega) s' h) e
theorem numR_bd {t : Tg} (hok : t.ok = true) {l : List ByteArray} (hl : l.length ≤ 40) {n : Int} (h : numR t l = some n) : 0 ≤ n ∧ n ≤ 20000000 := by
  unfold numR at h
  cases e : readL t l noSums with
  | none => rw [e] at h; cases h
  | some s =>
    rw [e, Option.map_some] at h
    cases h
    have hs := (readL_bd hok l l.length (Nat.le_refl _) s (by rw [List.take_length]; exact e)).sum 5 (Nat.le_refl _)
    omega
end Go.Proofs.YteemgkabhkdeaaaDoor
