/-
  Texts by their numbers of letters, each as often as it is made: counted, in order, the first that is there twice.
-/
import Derived.Test.YtbghgpgpljdjkaaMathF
namespace Go.Proofs.Ytbghgpgpljdjkaa

/-- Each text of n letters is there as often as it is made. -/
def MadeIs (l : List ByteArray) (n : Nat) (T : List (List UInt8)) : Prop := ∀ x : List UInt8, T.count x = if x.length = n then waysC (wl l) x else 0
theorem made_zero (l : List ByteArray) : MadeIs l 0 [[]] := fun x => by
  by_cases h : x = []
  · subst h
    rw [if_pos (show ([] : List UInt8).length = 0 from rfl)]
    unfold waysC
    rw [ways_nil]
    simp
  · rw [if_neg (fun e => h (List.eq_nil_of_length_eq_zero e)), List.count_eq_zero]
    simpa using h
/-- What the first k words and the shorter texts make. -/
def longL (l : List ByteArray) (Ts : List (List ByteArray)) (k : Nat) : List ByteArray := (l.take k).flatMap fun u => if Ts.length < u.size then [] else (Ts.getD (Ts.length - u.size) []).map (u ++ ·)
theorem longL_go {l : List ByteArray} (Ts : List (List ByteArray)) {k : Nat} (hk : k < l.length) : longL l Ts (k + 1) = longL l Ts k ++ if Ts.length < (l.getD k ByteArray.empty).size then [] else (Ts.getD (Ts.length - (l.getD k ByteArray.empty).size) []).map (l.getD k ByteArray.empty ++ ·) := by
  unfold longL
  rw [List.take_succ_eq_append_getElem hk, List.flatMap_append]
  simp [List.getD_eq_getElem?_getD, hk]
theorem count_ahead (u : ByteArray) (T : List ByteArray) (x : List UInt8) : ((T.map (u ++ ·)).map tl).count x = if (tl u).isPrefixOf x then (T.map tl).count (x.drop u.size) else 0 := by
  induction T with
  | nil => simp
  | cons t T ih =>
    rw [List.map_cons, List.map_cons, List.count_cons, ih, List.map_cons, List.count_cons, tl_app]
    by_cases hp : (tl u).isPrefixOf x = true
    · rw [if_pos hp, if_pos hp]
      obtain ⟨r, rfl⟩ := List.isPrefixOf_iff_prefix.1 hp
      have e1 : (tl u ++ r).drop u.size = r := by rw [← tl_len u, List.drop_left]
      rw [e1]
      have e2 : ((tl u ++ tl t) == (tl u ++ r)) = (tl t == r) := by
        by_cases e : tl t = r
        · rw [e]; simp
        · rw [beq_eq_false_iff_ne.2 e, beq_eq_false_iff_ne.2 (fun h => e (List.append_cancel_left h))]
      rw [e2]
    · rw [if_neg hp, if_neg hp]
      have e2 : ((tl u ++ tl t) == x) = false := beq_eq_false_iff_ne.2 (fun e => hp (List.isPrefixOf_iff_prefix.2 ⟨tl t, e⟩))
      rw [e2]; simp
theorem count_flat (l : List ByteArray) (f : ByteArray → List ByteArray) (x : List UInt8) : ((l.flatMap f).map tl).count x = (l.map fun u => ((f u).map tl).count x).sum := by
  induction l with
  | nil => simp
  | cons u l ih => rw [List.flatMap_cons, List.map_append, List.count_append, ih, List.map_cons, List.sum_cons]
/-- One letter more. -/
theorem made_step {l : List ByteArray} (hc : codeOk l = true) {Ts : List (List ByteArray)} (h0 : 0 < Ts.length) (h : ∀ i, i < Ts.length → MadeIs l i ((Ts.getD i []).map tl)) : MadeIs l Ts.length ((longL l Ts l.length).map tl) := fun x => by
  unfold longL
  rw [List.take_length, count_flat]
  have key : ∀ u ∈ l, (((if Ts.length < u.size then [] else (Ts.getD (Ts.length - u.size) []).map (u ++ ·)) : List ByteArray).map tl).count x = if x.length = Ts.length then (if (tl u).isPrefixOf x then waysC (wl l) (x.drop u.size) else 0) else 0 := fun u hu => by
    have hz := codeOk_len hc hu
    by_cases h1 : Ts.length < u.size
    · rw [if_pos h1]
      by_cases h2 : x.length = Ts.length
      · rw [if_pos h2]
        have : ¬ (tl u).isPrefixOf x = true := fun hp => by
          obtain ⟨r, rfl⟩ := List.isPrefixOf_iff_prefix.1 hp
          rw [List.length_append, tl_len] at h2
          omega
        rw [if_neg this]; simp
      · rw [if_neg h2]; simp
    · rw [if_neg h1, count_ahead]
      by_cases hp : (tl u).isPrefixOf x = true
      · rw [if_pos hp, h _ (by omega) (x.drop u.size), List.length_drop]
        obtain ⟨r, rfl⟩ := List.isPrefixOf_iff_prefix.1 hp
        rw [List.length_append, tl_len]
        by_cases h2 : u.size + r.length = Ts.length
        · rw [if_pos (by omega), if_pos h2, if_pos hp]
        · rw [if_neg (by omega), if_neg h2]
      · rw [if_neg hp]
        by_cases h2 : x.length = Ts.length
        · rw [if_pos h2, if_neg hp]
        · rw [if_neg h2]
  rw [List.map_congr_left key]
  by_cases h2 : x.length = Ts.length
  · simp only [if_pos h2]
    have hx : x ≠ [] := fun e => by rw [e] at h2; simp at h2; omega
    rw [ways_go (wl_ne hc) hx, sum_filter]
    unfold wl
    rw [List.map_map]
    congr 1
  · simp only [if_neg h2]
    clear key hc h
    induction l with
    | nil => rfl
    | cons u l ih => rw [List.map_cons, List.sum_cons, ih]

/-- The first one that is there twice in an ordered list. -/
def FtIs (T : List (List UInt8)) (x : List UInt8) (b : Bool) : Prop :=
  (b = true ∧ ∃ i, 1 ≤ i ∧ i < T.length ∧ T.getD i [] = x ∧ T.getD (i - 1) [] = x ∧ ∀ j, 1 ≤ j → j < i → T.getD j [] ≠ T.getD (j - 1) []) ∨
  (b = false ∧ x = [] ∧ ∀ j, 1 ≤ j → j < T.length → T.getD j [] ≠ T.getD (j - 1) [])
theorem twice_of_count {T : List (List UInt8)} (hs : T.Pairwise (· ≤ ·)) {y : List UInt8} (h : 2 ≤ T.count y) : ∃ i, 1 ≤ i ∧ i < T.length ∧ T.getD i [] = y ∧ T.getD (i - 1) [] = y := by
  induction T with
  | nil => simp at h
  | cons t T ih =>
    obtain ⟨h1, h2⟩ := List.pairwise_cons.1 hs
    by_cases h3 : 2 ≤ T.count y
    · obtain ⟨i, i1, i2, e1, e2⟩ := ih h2 h3
      refine ⟨i + 1, by omega, by simp; omega, ?_, ?_⟩
      · simpa using e1
      · obtain ⟨k, rfl⟩ : ∃ k, i = k + 1 := ⟨i - 1, by omega⟩
        simpa using e2
    · rw [List.count_cons] at h
      have ht : t = y := by
        by_cases e : t = y
        · exact e
        · rw [beq_eq_false_iff_ne.2 e] at h; simp at h; omega
      subst ht
      have hm : 1 ≤ T.count t := by
        rw [beq_self_eq_true, if_pos rfl] at h; omega
      cases T with
      | nil => simp at hm
      | cons t2 T =>
        obtain ⟨h4, h5⟩ := List.pairwise_cons.1 h2
        by_cases e : t2 = t
        · exact ⟨1, Nat.le_refl _, by simp, by simp [e], by simp⟩
        · exfalso
          rw [List.count_cons, beq_eq_false_iff_ne.2 e] at hm
          have hmem : t ∈ T := List.count_pos_iff.1 (by simpa using hm)
          exact e (List.le_antisymm (h4 t hmem) (h1 t2 (by simp)))
theorem count_of_twice {T : List (List UInt8)} {y : List UInt8} {i : Nat} (h1 : 1 ≤ i) (h2 : i < T.length) (e1 : T.getD i [] = y) (e2 : T.getD (i - 1) [] = y) : 2 ≤ T.count y := by
  induction T generalizing i with
  | nil => simp at h2
  | cons t T ih =>
    rw [List.count_cons]
    by_cases hi : i = 1
    · subst hi
      cases T with
      | nil => simp at h2
      | cons t2 T =>
        have a : t2 = y := by simpa using e1
        have b : t = y := by simpa using e2
        subst a; subst b
        rw [List.count_cons]; simp
    · obtain ⟨k, rfl⟩ : ∃ k, i = k + 2 := ⟨i - 2, by omega⟩
      have := ih (i := k + 1) (by omega) (by simp at h2; omega) (by simpa using e1) (by simpa using e2)
      omega
theorem pair_at {T : List (List UInt8)} (hs : T.Pairwise (· ≤ ·)) {a b : Nat} (hab : a ≤ b) (hb : b < T.length) : T.getD a [] ≤ T.getD b [] := by
  rcases Nat.lt_or_ge a b with h | h
  · have := List.pairwise_iff_getElem.1 hs a b (by omega) hb h
    simpa [List.getD_eq_getElem?_getD, hb, show a < T.length by omega] using this
  · obtain rfl : a = b := by omega
    exact List.le_refl _
theorem ft_yes {l : List ByteArray} {n : Nat} {T : List (List UInt8)} (hM : MadeIs l n T) (hs : T.Pairwise (· ≤ ·)) {x : ByteArray} (h : FtIs T (tl x) true) : FirstTwo l n x := by
  rcases h with ⟨-, i, i1, i2, e1, e2, hno⟩ | ⟨h, -⟩
  · have hc := count_of_twice i1 i2 e1 e2
    rw [hM (tl x)] at hc
    by_cases hl : (tl x).length = n
    · rw [if_pos hl] at hc
      refine ⟨by rw [← tl_len]; exact hl, hc, fun y hy h2 hlt => ?_⟩
      have hcy : 2 ≤ T.count (tl y) := by
        rw [hM (tl y), if_pos (by rw [tl_len]; exact hy)]; exact h2
      obtain ⟨j, j1, j2, f1, f2⟩ := twice_of_count hs hcy
      rcases Nat.lt_or_ge j i with hji | hji
      · exact hno j j1 hji (by rw [f1, f2])
      · have := pair_at hs hji j2
        rw [e1, f1] at this
        exact List.not_lt.2 this hlt
    · rw [if_neg hl] at hc; omega
  · cases h
theorem ft_no {l : List ByteArray} {n : Nat} {T : List (List UInt8)} (hM : MadeIs l n T) (hs : T.Pairwise (· ≤ ·)) {x : List UInt8} (h : FtIs T x false) : NoTwo l n ∧ x = [] := by
  rcases h with ⟨h, -⟩ | ⟨-, hx, hno⟩
  · cases h
  · refine ⟨fun y hy => ?_, hx⟩
    refine Nat.le_of_not_lt fun h2 => ?_
    have hcy : 2 ≤ T.count (tl y) := by
      rw [hM (tl y), if_pos (by rw [tl_len]; exact hy)]; exact h2
    obtain ⟨j, j1, j2, f1, f2⟩ := twice_of_count hs hcy
    exact hno j j1 j2 (by rw [f1, f2])
theorem made_perm {l : List ByteArray} {n : Nat} {T T' : List (List UInt8)} (h : MadeIs l n T) (hp : T'.Perm T) : MadeIs l n T' := fun x => by rw [hp.count_eq, h x]
theorem longL_len {l : List ByteArray} (hl4 : l.length ≤ 4) (hu : ∀ u ∈ l, 1 ≤ u.size) {Ts : List (List ByteArray)} (hT : ∀ i, i < Ts.length → (Ts.getD i []).length ≤ 4 ^ i) (h0 : 0 < Ts.length) : (longL l Ts l.length).length ≤ 4 ^ Ts.length := by
  have key : ∀ k, k ≤ l.length → (longL l Ts k).length ≤ k * 4 ^ (Ts.length - 1) := by
    intro k
    induction k with
    | zero => intro _; simp [longL]
    | succ k ih =>
      intro hk
      rw [longL_go Ts (by omega), List.length_append]
      have h1 := ih (by omega)
      have h2 : ((if Ts.length < (l.getD k ByteArray.empty).size then [] else (Ts.getD (Ts.length - (l.getD k ByteArray.empty).size) []).map (l.getD k ByteArray.empty ++ ·)) : List ByteArray).length ≤ 4 ^ (Ts.length - 1) := by
        split
        · exact Nat.zero_le _
        · rw [List.length_map]
          have hz := hu _ (getD_mem (show k < l.length by omega))
          exact Nat.le_trans (hT _ (by omega)) (Nat.pow_le_pow_right (by omega) (by omega))
      rw [Nat.succ_mul]
      omega
  have h1 := key l.length (Nat.le_refl _)
  have h2 : l.length * 4 ^ (Ts.length - 1) ≤ 4 * 4 ^ (Ts.length - 1) := Nat.mul_le_mul_right _ hl4
  have h3 : 4 ^ Ts.length = 4 * 4 ^ (Ts.length - 1) := by
    obtain ⟨m, hm⟩ : ∃ m, Ts.length = m + 1 := ⟨Ts.length - 1, by omega⟩
    rw [hm, Nat.pow_succ, Nat.add_sub_cancel]; omega
  omega
theorem longL_size {l : List ByteArray} (_hu : ∀ u ∈ l, u.size ≤ 4) {Ts : List (List ByteArray)} (hT : ∀ i, i < Ts.length → ∀ x ∈ Ts.getD i [], x.size = i) : ∀ x ∈ longL l Ts l.length, x.size = Ts.length := by
  intro x hx
  unfold longL at hx
  rw [List.take_length, List.mem_flatMap] at hx
  obtain ⟨u, hu', hx⟩ := hx
  split at hx
  · simp at hx
  · obtain ⟨t, ht, rfl⟩ := List.mem_map.1 hx
    by_cases h0 : Ts.length - u.size < Ts.length
    · have := hT _ h0 t ht
      rw [ByteArray.size_append, this]; omega
    · have hd : Ts.getD (Ts.length - u.size) [] = [] := by rw [List.getD, List.getElem?_eq_none (by omega)]; rfl
      rw [hd] at ht; simp at ht
end Go.Proofs.Ytbghgpgpljdjkaa
