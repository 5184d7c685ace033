/-
  Ways counted by first letters: what an array of counts by places holds while it is filled, whatever overflows.
-/
import Derived.Test.YtbghgpgpljdjkaaMathD
namespace Go.Proofs.Ytbghgpgpljdjkaa

/-- A sum over places. -/
def dotW (a f : Nat → Int) : Nat → Int
  | 0 => 0
  | m + 1 => dotW a f m + a m * f m
theorem dotW_same {a a' f f' : Nat → Int} {m : Nat} (h : ∀ p, p < m → a' p = a p) (h' : ∀ p, p < m → f' p = f p) : dotW a' f' m = dotW a f m := by
  induction m with
  | zero => rfl
  | succ m ih => rw [dotW, dotW, ih (fun p hp => h p (by omega)) (fun p hp => h' p (by omega)), h m (by omega), h' m (by omega)]
theorem dotW_upd {a a' f : Nat → Int} {q m : Nat} (hq : q < m) (h : ∀ p, p ≠ q → a' p = a p) : dotW a' f m = dotW a f m + (a' q - a q) * f q := by
  induction m with
  | zero => omega
  | succ m ih =>
    rw [dotW, dotW]
    by_cases e : q = m
    · subst e
      rw [dotW_same (fun p hp => h p (by omega)) (fun _ _ => rfl), Int.sub_mul]; omega
    · rw [ih (by omega), h m (fun e' => e e'.symm)]; omega
theorem dotW_chg {a f f' : Nat → Int} {q m : Nat} (hq : q < m) (h : ∀ p, p ≠ q → f' p = f p) : dotW a f' m = dotW a f m + a q * (f' q - f q) := by
  induction m with
  | zero => omega
  | succ m ih =>
    rw [dotW, dotW]
    by_cases e : q = m
    · subst e
      rw [dotW_same (fun _ _ => rfl) (fun p hp => h p (by omega)), Int.mul_sub]; omega
    · rw [ih (by omega), h m (fun e' => e e'.symm)]; omega
theorem dotW_zero {a f : Nat → Int} {m : Nat} (h : ∀ p, p < m → f p = 0) : dotW a f m = 0 := by
  induction m with
  | zero => rfl
  | succ m ih => rw [dotW, ih (fun p hp => h p (by omega)), h m (by omega)]; omega

/-- What a count at a place still weighs, at the first k words of the place i. -/
def wgt (l : List ByteArray) (s : ByteArray) (i k p : Nat) : Int := if p < i then 0 else if p = i then (wf l s i : Int) - (wayTo l s i k : Int) else (wf l s p : Int)
theorem wgt_next {l : List ByteArray} (h : codeOk l = true) {s : ByteArray} {i : Nat} (hi : i < s.size) (p : Nat) : wgt l s i l.length p = wgt l s (i + 1) 0 p := by
  unfold wgt
  rw [wayTo_end h hi, wayTo_zero]
  by_cases h1 : p < i
  · rw [if_pos h1, if_pos (by omega)]
  · rw [if_neg h1]
    by_cases h2 : p = i
    · rw [if_pos h2, if_pos (by omega)]; omega
    · rw [if_neg h2, if_neg (by omega)]
      by_cases h3 : p = i + 1
      · rw [if_pos h3, h3]; omega
      · rw [if_neg h3]
theorem wgt_no {l : List ByteArray} {s : ByteArray} {i k : Nat} (hk : k < l.length) (hf : fitsAt s i (l.getD k ByteArray.empty) = false) (p : Nat) : wgt l s i (k + 1) p = wgt l s i k p := by
  have e : wayTo l s i (k + 1) = wayTo l s i k := by rw [wayTo_go s i hk, hf]; simp
  unfold wgt
  rw [e]
/-- The counts so far. -/
structure WayInv (l : List ByteArray) (s : ByteArray) (i k : Nat) (xs : List Int) : Prop where
  len : xs.length = s.size + 1
  fit : ∀ p, -9223372036854775808 ≤ xs.getD p 0 ∧ xs.getD p 0 ≤ 9223372036854775807
  sum : ∃ z : Int, dotW (fun p => xs.getD p 0) (wgt l s i k) (s.size + 1) = (wf l s 0 : Int) + z * 18446744073709551616
theorem wrap_mod (x : Int) : ∃ z : Int, IntKind.i64.wrap x = x + z * 18446744073709551616 := by
  rw [IntKind.wrap_i64]
  refine ⟨(IntKind.i64.wrap x - x) / 18446744073709551616, ?_⟩
  rw [IntKind.wrap_i64]
  omega
theorem wrap_in (x : Int) : -9223372036854775808 ≤ IntKind.i64.wrap x ∧ IntKind.i64.wrap x ≤ 9223372036854775807 := by
  rw [IntKind.wrap_i64]; omega
theorem getD_setI (xs : List Int) (q : Nat) (v : Int) (hq : q < xs.length) (p : Nat) : (xs.set q v).getD p 0 = if p = q then v else xs.getD p 0 := by
  simp only [List.getD_eq_getElem?_getD, List.getElem?_set]
  by_cases e : q = p
  · subst e; simp [hq]
  · simp [e, Ne.symm e]
theorem way_start (l : List ByteArray) (s : ByteArray) : WayInv l s 0 0 ((List.replicate (s.size + 1) 0).set 0 1) := by
  have hr : ∀ p, (List.replicate (s.size + 1) (0 : Int)).getD p 0 = 0 := fun p => by
    rw [List.getD_eq_getElem?_getD, List.getElem?_replicate]
    split <;> rfl
  refine ⟨by simp, fun p => ?_, 0, ?_⟩
  · rw [getD_setI _ _ _ (by simp), hr]; split <;> omega
  · have h := dotW_upd (a := fun _ => 0) (a' := fun p => ((List.replicate (s.size + 1) (0 : Int)).set 0 1).getD p 0) (f := wgt l s 0 0) (q := 0) (m := s.size + 1) (by omega) (fun p hp => by
      show _ = (0 : Int)
      rw [getD_setI _ _ _ (by simp), hr, if_neg hp])
    rw [h]
    have h0 : ∀ (f : Nat → Int) m, dotW (fun _ => 0) f m = 0 := fun f m => by
      induction m with
      | zero => rfl
      | succ m ih => rw [dotW, ih]; omega
    rw [h0]
    show 0 + ((((List.replicate (s.size + 1) (0 : Int)).set 0 1).getD 0 0) - 0) * wgt l s 0 0 0 = _
    rw [getD_setI _ _ _ (by simp), if_pos rfl]
    unfold wgt
    rw [if_neg (by omega), if_pos rfl, wayTo_zero]
    omega
theorem way_skip {l : List ByteArray} {s : ByteArray} {i k : Nat} {xs : List Int} (h : WayInv l s i k xs) (hk : k < l.length) (hf : fitsAt s i (l.getD k ByteArray.empty) = false) : WayInv l s i (k + 1) xs :=
  ⟨h.len, h.fit, by
    obtain ⟨z, e⟩ := h.sum
    exact ⟨z, by rw [← e]; exact dotW_same (fun _ _ => rfl) (fun p _ => wgt_no hk hf p)⟩⟩
theorem way_next {l : List ByteArray} (hc : codeOk l = true) {s : ByteArray} {i : Nat} {xs : List Int} (hi : i < s.size) (h : WayInv l s i l.length xs) : WayInv l s (i + 1) 0 xs :=
  ⟨h.len, h.fit, by
    obtain ⟨z, e⟩ := h.sum
    exact ⟨z, by rw [← e]; exact dotW_same (fun _ _ => rfl) (fun p _ => (wgt_next hc hi p).symm)⟩⟩
theorem way_put {l : List ByteArray} (hc : codeOk l = true) {s : ByteArray} {i k : Nat} {xs : List Int} (h : WayInv l s i k xs) (hi : i < s.size) (hk : k < l.length) (hf : fitsAt s i (l.getD k ByteArray.empty) = true) :
    WayInv l s i (k + 1) (xs.set (i + (l.getD k ByteArray.empty).size) (IntKind.i64.wrap (xs.getD (i + (l.getD k ByteArray.empty).size) 0 + xs.getD i 0))) := by
  have hz := codeOk_len hc (getD_mem hk)
  have hle := fits_le (Nat.le_of_lt hi) hf
  have hgo := wayTo_go s i hk
  rw [hf, if_pos rfl] at hgo
  generalize (l.getD k ByteArray.empty).size = u at *
  have hq : i + u < xs.length := by rw [h.len]; omega
  refine ⟨by simp [h.len], fun p => ?_, ?_⟩
  · rw [getD_setI _ _ _ hq]
    split
    · exact wrap_in _
    · exact h.fit p
  · obtain ⟨z, e⟩ := h.sum
    obtain ⟨z2, e2⟩ := wrap_mod (xs.getD (i + u) 0 + xs.getD i 0)
    have h1 := dotW_upd (a := fun p => xs.getD p 0) (a' := fun p => (xs.set (i + u) (IntKind.i64.wrap (xs.getD (i + u) 0 + xs.getD i 0))).getD p 0) (f := wgt l s i (k + 1)) (q := i + u) (m := s.size + 1) (by omega) (fun p hp => by
      show (xs.set _ _).getD p 0 = xs.getD p 0
      rw [getD_setI _ _ _ hq, if_neg hp])
    have h2 := dotW_chg (a := fun p => xs.getD p 0) (f := wgt l s i k) (f' := wgt l s i (k + 1)) (q := i) (m := s.size + 1) (by omega) (fun p hp => by
      unfold wgt; rw [if_neg hp, if_neg hp])
    have g1 : wgt l s i (k + 1) (i + u) = (wf l s (i + u) : Int) := by unfold wgt; rw [if_neg (by omega), if_neg (by omega)]
    have g2 : wgt l s i (k + 1) i - wgt l s i k i = -(wf l s (i + u) : Int) := by
      unfold wgt
      rw [if_neg (by omega), if_pos rfl, if_neg (by omega), if_pos rfl, hgo]
      omega
    have g3 : (xs.set (i + u) (IntKind.i64.wrap (xs.getD (i + u) 0 + xs.getD i 0))).getD (i + u) 0 - xs.getD (i + u) 0 = xs.getD i 0 + z2 * 18446744073709551616 := by
      rw [getD_setI _ _ _ hq, if_pos rfl, e2]; omega
    refine ⟨z + z2 * (wf l s (i + u) : Int), ?_⟩
    rw [h1, h2, e]
    show _ + _ * (wgt l s i (k + 1) i - wgt l s i k i) + ((xs.set (i + u) _).getD (i + u) 0 - xs.getD (i + u) 0) * wgt l s i (k + 1) (i + u) = _
    rw [g1, g2, g3, Int.add_mul, Int.add_mul, Int.mul_neg, Int.mul_assoc z2, Int.mul_comm 18446744073709551616 (wf l s (i + u) : Int), ← Int.mul_assoc]
    omega
theorem way_end {l : List ByteArray} (hc : codeOk l = true) {s : ByteArray} (hs : s.size ≤ 24) {xs : List Int} (h : WayInv l s s.size 0 xs) : xs.getD s.size 0 = (waysN l s : Int) := by
  obtain ⟨z, e⟩ := h.sum
  have hf := h.fit s.size
  have hw := wf_small hc hs 0
  rw [dotW, dotW_zero (fun p hp => by unfold wgt; rw [if_pos hp])] at e
  have g : wgt l s s.size 0 s.size = 1 := by
    unfold wgt
    rw [if_neg (by omega), if_pos rfl, wf_end, wayTo_zero]; rfl
  rw [g] at e
  have : z = 0 := by omega
  subst this
  rw [← wf_zero]
  omega
theorem waysV_yes {l : List ByteArray} (hc : codeOk l = true) {s : ByteArray} (hs : s.size ≤ 24) : waysV l s = (waysN l s : Int) := by
  unfold waysV; rw [hc, decide_eq_true hs]; rfl
theorem waysV_code {l : List ByteArray} (hc : codeOk l = false) (s : ByteArray) : waysV l s = -1 := by
  unfold waysV; rw [hc]; rfl
theorem waysV_long (l : List ByteArray) {s : ByteArray} (hs : ¬ s.size ≤ 24) : waysV l s = -1 := by
  unfold waysV; rw [decide_eq_false hs, Bool.and_false]; rfl
end Go.Proofs.Ytbghgpgpljdjkaa
