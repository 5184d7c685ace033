/-
  Tongues, as plain mathematics: words, tongues, tongues with two words exchanged.
-/
import Derived.Test.YteemgkabhkdeaaaDoorMath
import Derived.Laws.Strings
namespace Go.Proofs.YteemgkabhkdeaaaDoor

/-- One byte of a word. -/
def letterOk (b : UInt8) : Bool := decide (97 ≤ b.toNat) && decide (b.toNat ≤ 122)
def wordOk (s : ByteArray) : Bool := decide (1 ≤ s.size ∧ s.size ≤ 8) && s.data.toList.all letterOk

/-- A tongue of units, bases and names. -/
def tongueOk (us : List ByteArray) (bs : List Int) (ns : List ByteArray) : Bool :=
  decide (1 ≤ us.length ∧ us.length ≤ 20) && basesOk bs && decide (ns.length + 1 = bs.length) && decide (2 ≤ bs.length → bs.getD 1 0 = us.length + 1) && (us ++ ns).all wordOk && decide (us ++ ns).Nodup

theorem tongueOk_iff (us : List ByteArray) (bs : List Int) (ns : List ByteArray) : tongueOk us bs ns = true ↔
    (1 ≤ us.length ∧ us.length ≤ 20) ∧ basesOk bs = true ∧ ns.length + 1 = bs.length ∧ (2 ≤ bs.length → bs.getD 1 0 = us.length + 1) ∧ (∀ s ∈ us ++ ns, wordOk s = true) ∧ (us ++ ns).Nodup := by
  simp only [tongueOk, Bool.and_eq_true, decide_eq_true_eq, List.all_eq_true, and_assoc]

/-- One base less, one name less. -/
theorem tongueOk_init {us : List ByteArray} {bs : List Int} {ns : List ByteArray} (h : tongueOk us bs ns = true) (h2 : 2 ≤ bs.length) :
    tongueOk us (bs.take (bs.length - 1)) (ns.take (bs.length - 2)) = true := by
  obtain ⟨h1, hb, hn, hs, hw, hd⟩ := (tongueOk_iff _ _ _).1 h
  have hsub : (us ++ ns.take (bs.length - 2)).Sublist (us ++ ns) := (List.take_sublist _ _).append_left us
  refine (tongueOk_iff _ _ _).2 ⟨h1, basesOk_init hb h2, by simp; omega, fun h3 => ?_, fun s m => hw s (hsub.subset m), hd.sublist hsub⟩
  have h4 : 1 < bs.length - 1 := by simp at h3; omega
  have := hs h2
  rw [← this]
  simp [List.getD_eq_getElem?_getD, h4, show 1 < bs.length by omega]

/-- Two places exchanged. -/
def swapAt (l : List ByteArray) (a b : Nat) : List ByteArray := (l.set a (l.getD b ByteArray.empty)).set b (l.getD a ByteArray.empty)

theorem swapAt_length (l : List ByteArray) (a b : Nat) : (swapAt l a b).length = l.length := by simp [swapAt]
theorem swapAt_getD {l : List ByteArray} {a b : Nat} (ha : a < l.length) (hb : b < l.length) (j : Nat) (hj : j < l.length) :
    (swapAt l a b).getD j ByteArray.empty = l.getD (if j = b then a else if j = a then b else j) ByteArray.empty := by
  simp only [swapAt, List.getD_eq_getElem?_getD, List.getElem?_set, List.length_set]
  by_cases e1 : b = j
  · subst e1; simp [hb]
  · by_cases e2 : a = j
    · subst e2
      simp [e1, Ne.symm e1, ha]
    · simp [e1, e2, Ne.symm e1, Ne.symm e2]
theorem swapAt_twice {l : List ByteArray} {a b : Nat} (ha : a < l.length) (hb : b < l.length) : swapAt (swapAt l a b) a b = l := by
  apply List.ext_getElem (by simp [swapAt_length])
  intro j h1 h2
  have e1 := swapAt_getD (l := swapAt l a b) (a := a) (b := b) (by rwa [swapAt_length]) (by rwa [swapAt_length]) j (by rwa [swapAt_length])
  rw [swapAt_getD ha hb _ (by split; exact ha; split; exact hb; exact h2)] at e1
  have e2 : (if (if j = b then a else if j = a then b else j) = b then a else if (if j = b then a else if j = a then b else j) = a then b else (if j = b then a else if j = a then b else j)) = j := by
    by_cases x : j = b <;> by_cases y : j = a <;> by_cases z : a = b <;> simp_all
  rw [e2] at e1
  simpa [List.getD_eq_getElem?_getD, h1, h2] using e1
theorem swapAt_perm {l : List ByteArray} {a b : Nat} (ha : a < l.length) (hb : b < l.length) : ∀ s ∈ swapAt l a b, s ∈ l := by
  intro s hs
  obtain ⟨j, hj, rfl⟩ := List.mem_iff_getElem.1 hs
  have hj' : j < l.length := by rwa [swapAt_length] at hj
  have e := swapAt_getD ha hb j hj'
  have hk : (if j = b then a else if j = a then b else j) < l.length := by split; exact ha; split; exact hb; exact hj'
  simp only [List.getD_eq_getElem?_getD, List.getElem?_eq_getElem hj, List.getElem?_eq_getElem hk, Option.getD_some] at e
  rw [e]; exact List.getElem_mem _
theorem swapAt_nodup {l : List ByteArray} {a b : Nat} (ha : a < l.length) (hb : b < l.length) (h : l.Nodup) : (swapAt l a b).Nodup := by
  have hP := List.pairwise_iff_getElem.1 h
  have inj : ∀ i j (hi : i < l.length) (hj : j < l.length), l[i] = l[j] → i = j := fun i j hi hj e => by
    rcases Nat.lt_trichotomy i j with x | x | x
    · exact absurd e (hP i j hi hj x)
    · exact x
    · exact absurd e.symm (hP j i hj hi x)
  refine List.pairwise_iff_getElem.2 fun i j li lj hij => ?_
  have hi : i < l.length := by rwa [swapAt_length] at li
  have hj : j < l.length := by rwa [swapAt_length] at lj
  have f (k : Nat) (hk : k < l.length) : (if k = b then a else if k = a then b else k) < l.length := by split; exact ha; split; exact hb; exact hk
  have ei := swapAt_getD ha hb i hi
  have ej := swapAt_getD ha hb j hj
  simp only [List.getD_eq_getElem?_getD, List.getElem?_eq_getElem li, List.getElem?_eq_getElem lj, List.getElem?_eq_getElem (f i hi), List.getElem?_eq_getElem (f j hj), Option.getD_some] at ei ej
  intro e
  rw [ei, ej] at e
  have := inj _ _ (f i hi) (f j hj) e
  split at this <;> split at this <;> (try split at this) <;> (try split at this) <;> omega

/-- Words exchanged are a tongue. -/
theorem tongueOk_swap {us : List ByteArray} {bs : List Int} {ns : List ByteArray} (h : tongueOk us bs ns = true) {a b : Nat} (ha : a < us.length + ns.length) (hb : b < us.length + ns.length) :
    tongueOk ((swapAt (us ++ ns) a b).take us.length) bs ((swapAt (us ++ ns) a b).drop us.length) = true := by
  obtain ⟨h1, hbo, hn, hs, hw, hd⟩ := (tongueOk_iff _ _ _).1 h
  have hl : (swapAt (us ++ ns) a b).length = us.length + ns.length := by rw [swapAt_length, List.length_append]
  have ha' : a < (us ++ ns).length := by simpa using ha
  have hb' : b < (us ++ ns).length := by simpa using hb
  have e1 : ((swapAt (us ++ ns) a b).take us.length).length = us.length := by rw [List.length_take, hl]; omega
  have e2 : ((swapAt (us ++ ns) a b).drop us.length).length = ns.length := by rw [List.length_drop, hl]; omega
  refine (tongueOk_iff _ _ _).2 ⟨by rw [e1]; exact h1, hbo, by rw [e2]; exact hn, by rw [e1]; exact hs, ?_, ?_⟩
  · rw [List.take_append_drop]; exact fun s m => hw s (swapAt_perm ha' hb' s m)
  · rw [List.take_append_drop]; exact swapAt_nodup ha' hb' hd
theorem wordOk_len {s : ByteArray} (h : wordOk s = true) : 1 ≤ s.size ∧ s.size ≤ 8 := by
  simp only [wordOk, Bool.and_eq_true, decide_eq_true_eq] at h; exact h.1
/-- As strings are compared. -/
theorem str_eq (x y : ByteArray) : (x.toList == y.toList) = decide (x = y) := by
  by_cases e : x = y
  · simp [e]
  · have : ¬ x.toList = y.toList := fun h => e (by
      have h2 : x.data.toList = y.data.toList := by simpa [ByteArray.toList_eq] using h
      exact ByteArray.ext (Array.toList_inj.1 h2))
    simp [e, this]
end Go.Proofs.YteemgkabhkdeaaaDoor
