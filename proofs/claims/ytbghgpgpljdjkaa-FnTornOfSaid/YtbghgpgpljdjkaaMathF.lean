/-
  Texts torn into words, and the first text that is made in two ways, as plain mathematics.
-/
import Derived.Test.YtbghgpgpljdjkaaMathD
namespace Go.Proofs.Ytbghgpgpljdjkaa

theorem tl_is (x : ByteArray) : x.toList = tl x := by simp [ByteArray.toList_eq]
section
variable {α : Type} [DecidableEq α]
theorem le_sumN {l : List Nat} {x : Nat} (h : x ∈ l) : x ≤ l.sum := by
  induction l with
  | nil => simp at h
  | cons a l ih =>
    rw [List.sum_cons]
    rcases List.mem_cons.1 h with rfl | h
    · omega
    · have := ih h; omega
theorem two_sumN {ι : Type} {l : List ι} {f : ι → Nat} {x y : ι} (hx : x ∈ l) (hy : y ∈ l) (hne : x ≠ y) (h1 : 1 ≤ f x) (h2 : 1 ≤ f y) : 2 ≤ (l.map f).sum := by
  induction l with
  | nil => simp at hx
  | cons a l ih =>
    rw [List.map_cons, List.sum_cons]
    rcases List.mem_cons.1 hx with rfl | hx'
    · rcases List.mem_cons.1 hy with rfl | hy'
      · exact absurd rfl hne
      · have := le_sumN (List.mem_map.2 ⟨y, hy', rfl⟩ : f y ∈ l.map f); omega
    · rcases List.mem_cons.1 hy with rfl | hy'
      · have := le_sumN (List.mem_map.2 ⟨x, hx', rfl⟩ : f x ∈ l.map f); omega
      · have := ih hx' hy'; omega
theorem ways_term {C : List (List α)} (hC : ∀ x ∈ C, x ≠ []) {u r : List α} (hu : u ∈ C) : waysC C r ≤ waysC C (u ++ r) := by
  have hne : u ++ r ≠ [] := fun e => hC u hu (List.append_eq_nil_iff.1 e).1
  rw [ways_go hC hne]
  refine le_sumN (List.mem_map.2 ⟨u, List.mem_filter.2 ⟨hu, ?_⟩, ?_⟩)
  · exact List.isPrefixOf_iff_prefix.2 ⟨r, rfl⟩
  · rw [List.drop_left]
/-- What is made of words is made in some way. -/
theorem ways_pos {C : List (List α)} (hC : ∀ x ∈ C, x ≠ []) : ∀ a : List (List α), (∀ x ∈ a, x ∈ C) → 1 ≤ waysC C a.flatten := by
  intro a
  induction a with
  | nil => intro _; unfold waysC; rw [List.flatten_nil, ways_nil]; exact Nat.le_refl _
  | cons x a ih =>
    intro h
    rw [List.flatten_cons]
    exact Nat.le_trans (ih fun y hy => h y (by simp [hy])) (ways_term hC (h x (by simp)))
/-- What is made in at most one way is made of just these words. -/
theorem ways_one {C : List (List α)} (hC : ∀ x ∈ C, x ≠ []) : ∀ a b : List (List α), waysC C a.flatten ≤ 1 → (∀ x ∈ a, x ∈ C) → (∀ x ∈ b, x ∈ C) → a.flatten = b.flatten → a = b := by
  intro a
  induction a with
  | nil =>
    intro b _ _ hb hf
    cases b with
    | nil => rfl
    | cons y b =>
      exfalso
      have h := hf.symm
      rw [List.flatten_cons, List.flatten_nil] at h
      exact hC y (hb y (by simp)) (List.append_eq_nil_iff.1 h).1
  | cons x a ih =>
    intro b hw ha hb hf
    have hx := ha x (by simp)
    have ha' : ∀ z ∈ a, z ∈ C := fun z hz => ha z (by simp [hz])
    cases b with
    | nil =>
      exfalso
      rw [List.flatten_cons, List.flatten_nil] at hf
      exact hC x hx (List.append_eq_nil_iff.1 hf).1
    | cons y b =>
      have hy := hb y (by simp)
      have hb' : ∀ z ∈ b, z ∈ C := fun z hz => hb z (by simp [hz])
      by_cases e : x = y
      · subst e
        rw [List.flatten_cons, List.flatten_cons, List.append_cancel_left_eq] at hf
        rw [List.flatten_cons] at hw
        rw [ih b (Nat.le_trans (ways_term hC hx) hw) ha' hb' hf]
      · exfalso
        have hne : (x :: a).flatten ≠ [] := fun e => by
          rw [List.flatten_cons] at e
          exact hC x hx (List.append_eq_nil_iff.1 e).1
        rw [ways_go hC hne] at hw
        have h2 := two_sumN (l := C.filter fun u => u.isPrefixOf (x :: a).flatten) (f := fun u => waysC C ((x :: a).flatten.drop u.length)) (x := x) (y := y)
          (List.mem_filter.2 ⟨hx, List.isPrefixOf_iff_prefix.2 ⟨a.flatten, (List.flatten_cons ..).symm⟩⟩)
          (List.mem_filter.2 ⟨hy, List.isPrefixOf_iff_prefix.2 ⟨b.flatten, by rw [hf, List.flatten_cons]⟩⟩) e
          (by rw [List.flatten_cons, List.drop_left]; exact ways_pos hC a ha')
          (by rw [hf, List.flatten_cons, List.drop_left]; exact ways_pos hC b hb')
        omega
end

/-- These words, one behind the other, are the text. -/
def TornIs (l : List ByteArray) (s : ByteArray) (a : List ByteArray) : Prop := (∀ u ∈ a, u ∈ l) ∧ (a.map tl).flatten = tl s
theorem map_tl_inj : ∀ {a b : List ByteArray}, a.map tl = b.map tl → a = b
  | [], [], _ => rfl
  | [], _ :: _, h => by simp at h
  | _ :: _, [], h => by simp at h
  | x :: a, y :: b, h => by
    rw [List.map_cons, List.map_cons] at h
    obtain ⟨h1, h2⟩ := List.cons.inj h
    rw [tl_inj h1, map_tl_inj h2]
theorem torn_one {l : List ByteArray} (hc : codeOk l = true) {s : ByteArray} (h : waysN l s ≤ 1) {a b : List ByteArray} (ha : TornIs l s a) (hb : TornIs l s b) : a = b := by
  refine map_tl_inj (ways_one (wl_ne hc) _ _ ?_ ?_ ?_ ?_)
  · rw [ha.2]; exact h
  · intro x hx
    obtain ⟨u, hu, rfl⟩ := List.mem_map.1 hx
    exact wl_mem.2 (ha.1 u hu)
  · intro x hx
    obtain ⟨u, hu, rfl⟩ := List.mem_map.1 hx
    exact wl_mem.2 (hb.1 u hu)
  · rw [ha.2, hb.2]
open Classical in
noncomputable def tornOf (l : List ByteArray) (s : ByteArray) : List ByteArray := if h : (waysV l s = 1 ∧ s.size ≠ 0) ∧ ∃ a, TornIs l s a then h.2.choose else []
def tornB (l : List ByteArray) (s : ByteArray) : Bool := decide (waysV l s = 1) && decide (s.size ≠ 0)
theorem waysV_one {l : List ByteArray} {s : ByteArray} (h : waysV l s = 1) : codeOk l = true ∧ s.size ≤ 24 ∧ waysN l s = 1 := by
  unfold waysV at h
  by_cases hh : (codeOk l && decide (s.size ≤ 24)) = true
  · rw [if_pos hh] at h
    rw [Bool.and_eq_true, decide_eq_true_eq] at hh
    exact ⟨hh.1, hh.2, by omega⟩
  · rw [if_neg hh] at h
    omega
theorem torn_eq {l : List ByteArray} {s : ByteArray} {a : List ByteArray} (h : waysV l s = 1) (h0 : s.size ≠ 0) (ha : TornIs l s a) : tornOf l s = a := by
  obtain ⟨h1, h2, h3⟩ := waysV_one h
  unfold tornOf
  have hh : (waysV l s = 1 ∧ s.size ≠ 0) ∧ ∃ a, TornIs l s a := ⟨⟨h, h0⟩, a, ha⟩
  rw [dif_pos hh]
  exact torn_one h1 (by omega) hh.2.choose_spec ha
theorem torn_not {l : List ByteArray} {s : ByteArray} (h : ¬ (waysV l s = 1 ∧ s.size ≠ 0)) : tornOf l s = [] ∧ tornB l s = false := by
  refine ⟨?_, ?_⟩
  · unfold tornOf; rw [dif_neg (fun hh => h hh.1)]
  · unfold tornB
    by_cases h1 : waysV l s = 1
    · rw [decide_eq_false (show ¬ s.size ≠ 0 from fun h0 => h ⟨h1, h0⟩), Bool.and_false]
    · rw [decide_eq_false h1]; rfl
theorem torn_yes {l : List ByteArray} {s : ByteArray} (h : waysV l s = 1) (h0 : s.size ≠ 0) : tornB l s = true := by
  unfold tornB; rw [decide_eq_true h, decide_eq_true h0]; rfl
/-- While a text is torn. -/
structure TornInv (l : List ByteArray) (s : ByteArray) (p : Nat) (out : List ByteArray) : Prop where
  le : p ≤ s.size
  of : ∀ u ∈ out, u ∈ l
  is_ : (out.map tl).flatten = (tl s).take p
  one : wf l s p = 1
  len : out.length ≤ p
theorem TornInv.start {l : List ByteArray} {s : ByteArray} (h : waysN l s = 1) : TornInv l s 0 [] := ⟨Nat.zero_le _, by simp, by simp, h, Nat.le_refl _⟩
theorem TornInv.go {l : List ByteArray} (hc : codeOk l = true) {s u : ByteArray} {p : Nat} {out : List ByteArray} (h : TornInv l s p out) (hu : u ∈ l) (hf : fitsAt s p u = true) (h1 : wf l s (p + u.size) = 1) : TornInv l s (p + u.size) (out ++ [u]) := by
  have hz := codeOk_len hc hu
  refine ⟨fits_le h.le hf, fun x hx => ?_, ?_, h1, by rw [List.length_append]; have := h.len; simp; omega⟩
  · rcases List.mem_append.1 hx with hx | hx
    · exact h.of x hx
    · rw [List.mem_singleton.1 hx]; exact hu
  · obtain ⟨r, e⟩ := beg_iff.1 hf
    rw [tl_from] at e
    rw [List.map_append, List.flatten_append, h.is_, List.take_add, e]
    simp
theorem TornInv.end_ {l : List ByteArray} {s : ByteArray} {out : List ByteArray} (h : TornInv l s s.size out) : TornIs l s out :=
  ⟨h.of, by rw [h.is_, List.take_of_length_le (by rw [tl_len]; exact Nat.le_refl _)]⟩
theorem way_found {l : List ByteArray} (hc : codeOk l = true) {s : ByteArray} {p : Nat} (hp : p < s.size) (h1 : wf l s p = 1) (hno : ∀ i, i < l.length → fitsAt s p (l.getD i ByteArray.empty) = true → wf l s (p + (l.getD i ByteArray.empty).size) ≠ 1) : False := by
  have key : ∀ k, k ≤ l.length → wayTo l s p k = 0 := by
    intro k
    induction k with
    | zero => intro _; exact wayTo_zero l s p
    | succ k ih =>
      intro hk
      have hm := wayTo_mono l s p (k + 1) hk
      rw [wayTo_end hc hp, h1] at hm
      have hg := wayTo_go s p (show k < l.length by omega)
      have hn := hno k (by omega)
      rw [ih (by omega)] at hg
      cases hf : fitsAt s p (l.getD k ByteArray.empty)
      · rw [hf] at hg; simpa using hg
      · rw [hf, if_pos rfl] at hg
        have := hn hf
        omega
  have := key l.length (Nat.le_refl _)
  rw [wayTo_end hc hp] at this
  omega

/-- No text of so many letters is made in two ways. -/
def NoTwo (l : List ByteArray) (n : Nat) : Prop := ∀ y : ByteArray, y.size = n → waysN l y ≤ 1
/-- The first one of so many letters. -/
def FirstTwo (l : List ByteArray) (n : Nat) (x : ByteArray) : Prop := x.size = n ∧ 2 ≤ waysN l x ∧ ∀ y : ByteArray, y.size = n → 2 ≤ waysN l y → ¬ tl y < tl x
def TwoIs (l : List ByteArray) (x : ByteArray) (b : Bool) : Prop :=
  (b = true ∧ codeOk l = true ∧ l.length ≤ 4 ∧ ∃ n, 1 ≤ n ∧ n ≤ 6 ∧ FirstTwo l n x ∧ ∀ m, 1 ≤ m → m < n → NoTwo l m) ∨
  (b = false ∧ x = ByteArray.empty ∧ (codeOk l = true → l.length ≤ 4 → ∀ m, 1 ≤ m → m ≤ 6 → NoTwo l m))
theorem lt_anti {a b : List UInt8} (h1 : ¬ a < b) (h2 : ¬ b < a) : a = b := List.le_antisymm (List.not_lt.1 h2) (List.not_lt.1 h1)
theorem FirstTwo.uniq {l : List ByteArray} {n : Nat} {x y : ByteArray} (h : FirstTwo l n x) (h' : FirstTwo l n y) : x = y :=
  tl_inj (lt_anti (h'.2.2 x h.1 h.2.1) (h.2.2 y h'.1 h'.2.1))
theorem TwoIs.uniq {l : List ByteArray} {x y : ByteArray} {b c : Bool} (h : TwoIs l x b) (h' : TwoIs l y c) : x = y ∧ b = c := by
  rcases h with ⟨rfl, h1, h2, n, n1, n2, hf, hm⟩ | ⟨rfl, rfl, hm⟩
  · rcases h' with ⟨rfl, _, _, n', n1', n2', hf', hm'⟩ | ⟨rfl, rfl, hm'⟩
    · rcases Nat.lt_trichotomy n n' with e | e | e
      · have := hm' n n1 e x hf.1; have := hf.2.1; omega
      · subst e; exact ⟨hf.uniq hf', rfl⟩
      · have := hm n' n1' e y hf'.1; have := hf'.2.1; omega
    · have := hm' h1 h2 n n1 n2 x hf.1; have := hf.2.1; omega
  · rcases h' with ⟨rfl, h1, h2, n', n1', n2', hf', hm'⟩ | ⟨rfl, rfl, hm'⟩
    · have := hm h1 h2 n' n1' n2' y hf'.1; have := hf'.2.1; omega
    · exact ⟨rfl, rfl⟩
open Classical in
noncomputable def twoP (l : List ByteArray) : ByteArray × Bool := if h : ∃ p : ByteArray × Bool, TwoIs l p.1 p.2 then h.choose else (ByteArray.empty, false)
noncomputable def twoX (l : List ByteArray) : ByteArray := (twoP l).1
noncomputable def twoB (l : List ByteArray) : Bool := (twoP l).2
theorem two_eq {l : List ByteArray} {x : ByteArray} {b : Bool} (h : TwoIs l x b) : twoX l = x ∧ twoB l = b := by
  have hh : ∃ p : ByteArray × Bool, TwoIs l p.1 p.2 := ⟨(x, b), h⟩
  unfold twoX twoB twoP
  rw [dif_pos hh]
  exact hh.choose_spec.uniq h

/-- Texts in order: none before is greater. -/
def sortTo (xs : List ByteArray) (k : Nat) : Prop := ∀ b, b < k → ∀ a, a < b → ¬ tl (xs.getD b ByteArray.empty) < tl (xs.getD a ByteArray.empty)
def sortIn (xs : List ByteArray) (k j : Nat) : Prop := ∀ b, b ≤ k → b ≠ j → ∀ a, a < b → ¬ tl (xs.getD b ByteArray.empty) < tl (xs.getD a ByteArray.empty)
theorem sort_start {xs : List ByteArray} {k : Nat} (h : sortTo xs k) : sortIn xs k k := fun b hb hne => h b (by omega)
theorem sort_first {xs : List ByteArray} {k : Nat} (h : sortIn xs k 0) : sortTo xs (k + 1) := fun b hb a ha => h b (by omega) (by omega) a ha
theorem sort_stop {xs : List ByteArray} {k j : Nat} (h : sortIn xs k j) (hj : j ≤ k) (h0 : ¬ tl (xs.getD j ByteArray.empty) < tl (xs.getD (j - 1) ByteArray.empty)) : sortTo xs (k + 1) := fun b hb a ha => by
  by_cases e : b = j
  · subst e
    by_cases e2 : a = b - 1
    · subst e2; exact h0
    · have h1 := h (b - 1) (by omega) (by omega) a (by omega)
      rw [List.not_lt] at h0 h1 ⊢
      exact List.le_trans h1 h0
  · exact h b (by omega) e a ha
theorem sort_swap {xs : List ByteArray} {k j : Nat} (h : sortIn xs k j) (hk : k < xs.length) (hj0 : 0 < j) (hj : j ≤ k) (h0 : tl (xs.getD j ByteArray.empty) < tl (xs.getD (j - 1) ByteArray.empty)) : sortIn (swapAt xs j (j - 1)) k (j - 1) := fun b hb hne a ha => by
  rw [swapAt_getD (by omega) (by omega) b (by omega), swapAt_getD (by omega) (by omega) a (by omega)]
  have hlt := List.not_lt.2 (List.le_of_lt h0)
  rw [if_neg hne]
  by_cases e : b = j
  · rw [if_pos e]
    by_cases e2 : a = j - 1
    · rw [if_pos e2]; exact hlt
    · rw [if_neg e2, if_neg (by omega)]
      exact h (j - 1) (by omega) (by omega) a (by omega)
  · rw [if_neg e]
    by_cases e2 : a = j - 1
    · rw [if_pos e2]
      exact h b hb e j (by omega)
    · rw [if_neg e2]
      by_cases e3 : a = j
      · rw [if_pos e3]
        exact h b hb e (j - 1) (by omega)
      · rw [if_neg e3]
        exact h b hb e a ha
theorem swap_mem {xs : List ByteArray} {a b : Nat} (ha : a < xs.length) (hb : b < xs.length) (x : ByteArray) : x ∈ swapAt xs a b ↔ x ∈ xs := by
  constructor
  · exact swapAt_perm ha hb x
  · intro h
    have := swapAt_perm (l := swapAt xs a b) (a := a) (b := b) (by rwa [swapAt_length]) (by rwa [swapAt_length]) x
    rw [swapAt_twice ha hb] at this
    exact this h
end Go.Proofs.Ytbghgpgpljdjkaa
