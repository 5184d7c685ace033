/-
  The texts of so many letters that are made of words, as a list in order.
-/
import Derived.Test.YtbghgpgpljdjkaaMathF
import Derived.Test.YtbghgpgpljdjkaaQ2
namespace Go.Proofs.Ytbghgpgpljdjkaa

/-- All texts of n letters that are made, each once. -/
structure TexMem (l : List ByteArray) (n : Nat) (T : List ByteArray) : Prop where
  nd : T.Nodup
  mem : ∀ x : ByteArray, x ∈ T ↔ x.size = n ∧ 1 ≤ waysN l x
  len : T.length ≤ 6 ^ n
structure TextsAre (l : List ByteArray) (n : Nat) (T : List ByteArray) : Prop extends TexMem l n T where
  srt : sortTo T T.length
theorem waysN_empty (l : List ByteArray) : waysN l ByteArray.empty = 1 := by unfold waysN; rw [tl_empty]; unfold waysC; exact ways_nil _ _
theorem size_zero {x : ByteArray} (h : x.size = 0) : x = ByteArray.empty := tl_inj (by
  rw [tl_empty]; exact List.eq_nil_of_length_eq_zero (by rw [tl_len]; exact h))
theorem texts_zero (l : List ByteArray) : TextsAre l 0 [ByteArray.empty] :=
  { nd := by simp
    mem := fun x => by
      rw [List.mem_singleton]
      constructor
      · rintro rfl; exact ⟨rfl, by rw [waysN_empty]; exact Nat.le_refl _⟩
      · rintro ⟨h, -⟩; exact size_zero h
    len := Nat.le_refl _
    srt := fun b hb a ha => by simp at hb; omega }
/-- One letter's words and more: x begins with this word, and what is behind it is made. -/
def madeBy (l : List ByteArray) (n : Nat) (u x : ByteArray) : Prop := u.size ≤ n ∧ beg x u = true ∧ x.size = n ∧ 1 ≤ waysN l (rest x u)
structure TexTo (l : List ByteArray) (n k : Nat) (out : List ByteArray) : Prop where
  nd : out.Nodup
  mem : ∀ x : ByteArray, x ∈ out ↔ ∃ i, i < k ∧ madeBy l n (l.getD i ByteArray.empty) x
  len : out.length ≤ k * 6 ^ (n - 1)
theorem tex_start (l : List ByteArray) (n : Nat) : TexTo l n 0 [] := ⟨List.nodup_nil, fun x => ⟨fun h => by simp at h, fun ⟨i, hi, _⟩ => by omega⟩, by simp⟩
theorem tex_skip {l : List ByteArray} {n k : Nat} {out : List ByteArray} (h : TexTo l n k out) (hu : n < (l.getD k ByteArray.empty).size) : TexTo l n (k + 1) out :=
  ⟨h.nd, fun x => by
    rw [h.mem]
    constructor
    · rintro ⟨i, hi, hm⟩; exact ⟨i, by omega, hm⟩
    · rintro ⟨i, hi, hm⟩
      by_cases e : i = k
      · subst e; have := hm.1; omega
      · exact ⟨i, by omega, hm⟩, by rw [Nat.add_mul]; have := h.len; omega⟩
/-- While one word is put ahead of what is made. -/
structure TexIn (out R : List ByteArray) (u : ByteArray) (j : Nat) (out2 : List ByteArray) : Prop where
  nd : out2.Nodup
  mem : ∀ x : ByteArray, x ∈ out2 ↔ x ∈ out ∨ ∃ i, i < j ∧ x = u ++ R.getD i ByteArray.empty
  len : out2.length ≤ out.length + j
theorem texIn_start {out : List ByteArray} (h : out.Nodup) (R : List ByteArray) (u : ByteArray) : TexIn out R u 0 out := ⟨h, fun x => ⟨.inl, fun h => h.elim id fun ⟨i, hi, _⟩ => by omega⟩, Nat.le_refl _⟩
theorem texIn_go {out R out2 : List ByteArray} {u : ByteArray} {j : Nat} (h : TexIn out R u j out2) : TexIn out R u (j + 1) (putL out2 (u ++ R.getD j ByteArray.empty)) :=
  ⟨putL_nodup h.nd _, fun x => by
    rw [putL_mem, h.mem]
    constructor
    · rintro ((h1 | ⟨i, hi, e⟩) | e)
      · exact .inl h1
      · exact .inr ⟨i, by omega, e⟩
      · exact .inr ⟨j, by omega, e⟩
    · rintro (h1 | ⟨i, hi, e⟩)
      · exact .inl (.inl h1)
      · by_cases e2 : i = j
        · subst e2; exact .inr e
        · exact .inl (.inr ⟨i, by omega, e⟩), by have := (putL_len out2 (u ++ R.getD j ByteArray.empty)).1; have := h.len; omega⟩
theorem app_beg (u r : ByteArray) : beg (u ++ r) u = true := beg_iff.2 ⟨tl r, tl_app u r⟩
theorem app_rest (u r : ByteArray) : rest (u ++ r) u = r := tl_inj (by rw [rest_tl, tl_app, ← tl_len u, List.drop_left])
theorem beg_app {x u : ByteArray} (h : beg x u = true) : u ++ rest x u = x := tl_inj (by rw [tl_app]; exact (beg_rest h).symm)
theorem texIn_end {l out R out2 : List ByteArray} {n k : Nat} (h : TexTo l n k out) (hk : k < l.length) (hc : codeOk l = true) (hu : (l.getD k ByteArray.empty).size ≤ n) (hR : TexMem l (n - (l.getD k ByteArray.empty).size) R) (h2 : TexIn out R (l.getD k ByteArray.empty) R.length out2) : TexTo l n (k + 1) out2 := by
  have hz := codeOk_len hc (getD_mem hk)
  refine ⟨h2.nd, fun x => ?_, ?_⟩
  · rw [h2.mem, h.mem]
    constructor
    · rintro (⟨i, hi, hm⟩ | ⟨i, hi, e⟩)
      · exact ⟨i, by omega, hm⟩
      · obtain ⟨h3, h4⟩ := (hR.mem _).1 (getD_mem hi)
        refine ⟨k, by omega, hu, by rw [e]; exact app_beg _ _, ?_, by rw [e, app_rest]; exact h4⟩
        rw [e, ByteArray.size_append, h3]; omega
    · rintro ⟨i, hi, hm⟩
      by_cases e : i = k
      · subst e
        obtain ⟨m1, m2, m3, m4⟩ := hm
        have hr : rest x (l.getD i ByteArray.empty) ∈ R := (hR.mem _).2 ⟨by rw [rest_size, m3], m4⟩
        obtain ⟨a, ha, e⟩ := mem_getD hr
        exact .inr ⟨a, ha, by rw [e]; exact (beg_app m2).symm⟩
      · exact .inl ⟨i, by omega, hm⟩
  · have h3 := h2.len
    have h4 := hR.len
    have h5 : 6 ^ (n - (l.getD k ByteArray.empty).size) ≤ 6 ^ (n - 1) := Nat.pow_le_pow_right (by omega) (by omega)
    rw [Nat.add_mul]
    have := h.len
    omega
/-- A text that is not empty is made exactly if what is behind some word is. -/
theorem made_iff {l : List ByteArray} (hc : codeOk l = true) {n : Nat} (hn : 1 ≤ n) (x : ByteArray) : (x.size = n ∧ 1 ≤ waysN l x) ↔ ∃ i, i < l.length ∧ madeBy l n (l.getD i ByteArray.empty) x := by
  constructor
  · rintro ⟨hz, hw⟩
    have h1 := wayTo_end hc (s := x) (p := 0) (by omega)
    rw [wf_zero] at h1
    have h2 : 1 ≤ ((l.take l.length).map fun u => if fitsAt x 0 u then wf l x (0 + u.size) else 0).sum := by
      show 1 ≤ wayTo l x 0 l.length
      omega
    obtain ⟨y, hy, h3⟩ := sum_pos h2
    rw [List.take_length] at hy
    obtain ⟨u, hu, rfl⟩ := List.mem_map.1 hy
    obtain ⟨i, hi, rfl⟩ := mem_getD hu
    cases hf : fitsAt x 0 (l.getD i ByteArray.empty)
    · rw [hf] at h3; simp at h3
    · rw [hf, if_pos rfl] at h3
      have hle := fits_le (Nat.zero_le _) hf
      have hb : beg x (l.getD i ByteArray.empty) = true := by
        unfold fitsAt at hf; rwa [from_zero] at hf
      refine ⟨i, hi, by omega, hb, hz, ?_⟩
      unfold waysN
      rw [rest_tl]
      rw [Nat.zero_add] at h3
      exact h3
  · rintro ⟨i, hi, h1, h2, h3, h4⟩
    refine ⟨h3, ?_⟩
    have := ways_term (wl_ne hc) (u := tl (l.getD i ByteArray.empty)) (r := tl (rest x (l.getD i ByteArray.empty))) (wl_mem.2 (getD_mem hi))
    rw [← beg_rest h2] at this
    exact Nat.le_trans h4 this
theorem tex_end {l out : List ByteArray} {n : Nat} (hc : codeOk l = true) (hn : 1 ≤ n) (h : TexTo l n l.length out) : TexMem l n out :=
  ⟨h.nd, fun x => by rw [h.mem, made_iff hc hn], by
    have h1 := h.len
    have h6 := (codeOk_iff.1 hc).1.2
    have h2 : l.length * 6 ^ (n - 1) ≤ 6 * 6 ^ (n - 1) := Nat.mul_le_mul_right _ h6
    have h3 : 6 ^ n = 6 * 6 ^ (n - 1) := by
      obtain ⟨m, rfl⟩ : ∃ m, n = m + 1 := ⟨n - 1, by omega⟩
      rw [Nat.pow_succ, Nat.add_sub_cancel]; omega
    omega⟩
theorem TexMem.swap {l xs : List ByteArray} {n a b : Nat} (h : TexMem l n xs) (ha : a < xs.length) (hb : b < xs.length) : TexMem l n (swapAt xs a b) :=
  ⟨swapAt_nodup ha hb h.nd, fun x => by rw [swap_mem ha hb, h.mem], by rw [swapAt_length]; exact h.len⟩
theorem pow6 {n : Nat} (hn : n ≤ 6) : 6 ^ n ≤ 46656 := Nat.le_trans (Nat.pow_le_pow_right (by omega) hn) (by decide)
end Go.Proofs.Ytbghgpgpljdjkaa
