/-
  GN: MathN THold Same.
-/
import Derived.Test.YtbghgpgpljdjkaaGA
/- MathN -/
namespace Go.Proofs.Ytbghgpgpljdjkaa

/-- The place of the greatest base that is at most a number, among the first k; 0 if there is none but the first. -/
def topTo (bs : List Int) (n : Int) : Nat → Nat
  | 0 => 0
  | k + 1 => if 1 ≤ k ∧ bs.getD k 0 ≤ n then k else topTo bs n k
def topOf (bs : List Int) (n : Int) : Nat := topTo bs n bs.length

theorem topTo_at (bs : List Int) (n : Int) : ∀ k, topTo bs n k = 0 ∨ (1 ≤ topTo bs n k ∧ topTo bs n k < k ∧ bs.getD (topTo bs n k) 0 ≤ n) := by
  intro k
  induction k with
  | zero => exact .inl rfl
  | succ k ih =>
    rw [topTo]
    by_cases h : 1 ≤ k ∧ bs.getD k 0 ≤ n
    · rw [if_pos h]; exact .inr ⟨h.1, by omega, h.2⟩
    · rw [if_neg h]
      rcases ih with e | ⟨h1, h2, h3⟩
      · exact .inl e
      · exact .inr ⟨h1, by omega, h3⟩
theorem topTo_above (bs : List Int) (n : Int) : ∀ k i, topTo bs n k < i → i < k → n < bs.getD i 0 := by
  intro k
  induction k with
  | zero => intro i _ h; omega
  | succ k ih =>
    intro i h1 h2
    rw [topTo] at h1
    by_cases h : 1 ≤ k ∧ bs.getD k 0 ≤ n
    · rw [if_pos h] at h1; omega
    · rw [if_neg h] at h1
      by_cases e : i = k
      · subst e
        have : ¬ bs.getD i 0 ≤ n := fun hn => h ⟨by omega, hn⟩
        omega
      · exact ih i h1 (by omega)
theorem topOf_eq {bs : List Int} {n : Int} {k : Nat} (h1 : 1 ≤ k) (hk : k < bs.length) (hn : bs.getD k 0 ≤ n) (ha : ∀ i, k < i → i < bs.length → n < bs.getD i 0) : topOf bs n = k := by
  rcases Nat.lt_trichotomy (topOf bs n) k with h | h | h
  · have := topTo_above bs n bs.length k h hk; omega
  · exact h
  · rcases topTo_at bs n bs.length with e | ⟨_, h2, h3⟩
    · have : topOf bs n = 0 := e
      omega
    · have h2' : topOf bs n < bs.length := h2
      have h3' : bs.getD (topOf bs n) 0 ≤ n := h3
      have := ha _ h h2'; omega
theorem topOf_zero {bs : List Int} {n : Int} (ha : ∀ i, 1 ≤ i → i < bs.length → n < bs.getD i 0) : topOf bs n = 0 := by
  rcases topTo_at bs n bs.length with e | ⟨h1, h2, h3⟩
  · exact e
  · have := ha _ h1 h2; omega

/-- The greatest base that is at most a number. -/
def baseN (bs : List Int) (n : Nat) : Nat := (bs.getD (topOf bs n) 0).toNat
theorem bases_mono {bs : List Int} (hb : basesOk bs = true) : ∀ i j, i < j → j < bs.length → bs.getD i 0 < bs.getD j 0 := by
  intro i j hij
  induction j with
  | zero => omega
  | succ j ih =>
    intro hj
    have hs := bases_lt hb hj
    by_cases e : i = j
    · subst e; exact hs
    · have := ih (by omega) (by omega); omega
theorem base_facts {bs : List Int} (hb : basesOk bs = true) {n : Nat} (ht : topOf bs n ≠ 0) : 2 ≤ baseN bs n ∧ baseN bs n ≤ n ∧ (baseN bs n : Int) = bs.getD (topOf bs n) 0 ∧ topOf bs n < bs.length ∧ 1 ≤ topOf bs n := by
  rcases topTo_at bs n bs.length with e | ⟨h1, h2, h3⟩
  · exact absurd e ht
  · have h1' : 1 ≤ topOf bs n := h1
    have h2' : topOf bs n < bs.length := h2
    have h3' : bs.getD (topOf bs n) 0 ≤ n := h3
    have hm := bases_mono hb 0 (topOf bs n) (by omega) h2'
    rw [bases_one hb] at hm
    unfold baseN
    omega
theorem div_pos' {n b : Nat} (h1 : 2 ≤ b) (h2 : b ≤ n) : 1 ≤ n / b ∧ n / b < n ∧ n % b < n ∧ n / b + n % b + 1 ≤ n := by
  have h := Nat.div_add_mod n b
  have h3 : 1 ≤ n / b := (Nat.one_le_div_iff (by omega)).2 h2
  have h4 : n % b < b := Nat.mod_lt _ (by omega)
  have h5 : 2 * (n / b) ≤ b * (n / b) := Nat.mul_le_mul_right _ h1
  refine ⟨h3, by omega, by omega, by omega⟩

/-- The words of the name of a number; none if it has none. -/
def nameN (us : List ByteArray) (bs : List Int) (ns : List ByteArray) (n : Nat) : List ByteArray :=
  if topOf bs n = 0 then (if us.length < n then [] else [us.getD (n - 1) ByteArray.empty])
  else if _h : 2 ≤ baseN bs n ∧ baseN bs n ≤ n then
    if baseN bs n ≤ n / baseN bs n then [] else
    if 1 < n / baseN bs n ∧ nameN us bs ns (n / baseN bs n) = [] then [] else
    if n % baseN bs n ≠ 0 ∧ nameN us bs ns (n % baseN bs n) = [] then [] else
    (if 1 < n / baseN bs n then nameN us bs ns (n / baseN bs n) else []) ++ [ns.getD (topOf bs n - 1) ByteArray.empty] ++ (if n % baseN bs n = 0 then [] else nameN us bs ns (n % baseN bs n))
  else []
termination_by n
decreasing_by
  all_goals have hd := div_pos' _h.1 _h.2
  all_goals omega

section
variable {us : List ByteArray} {bs : List Int} {ns : List ByteArray} {n : Nat}
theorem name_unit (ht : topOf bs n = 0) : nameN us bs ns n = if us.length < n then [] else [us.getD (n - 1) ByteArray.empty] := by
  rw [nameN, if_pos ht]
theorem name_top (hb : basesOk bs = true) (ht : topOf bs n ≠ 0) : nameN us bs ns n =
    if baseN bs n ≤ n / baseN bs n then [] else
    if 1 < n / baseN bs n ∧ nameN us bs ns (n / baseN bs n) = [] then [] else
    if n % baseN bs n ≠ 0 ∧ nameN us bs ns (n % baseN bs n) = [] then [] else
    (if 1 < n / baseN bs n then nameN us bs ns (n / baseN bs n) else []) ++ [ns.getD (topOf bs n - 1) ByteArray.empty] ++ (if n % baseN bs n = 0 then [] else nameN us bs ns (n % baseN bs n)) := by
  have h := base_facts hb ht
  rw [nameN, if_neg ht, dif_pos ⟨h.1, h.2.1⟩]
theorem name_over (hb : basesOk bs = true) (ht : topOf bs n ≠ 0) (h : baseN bs n ≤ n / baseN bs n) : nameN us bs ns n = [] := by
  rw [name_top hb ht, if_pos h]
theorem name_nohead (hb : basesOk bs = true) (ht : topOf bs n ≠ 0) (h1 : 1 < n / baseN bs n) (h : nameN us bs ns (n / baseN bs n) = []) : nameN us bs ns n = [] := by
  rw [name_top hb ht]
  split
  · rfl
  · rw [if_pos ⟨h1, h⟩]
theorem name_norest (hb : basesOk bs = true) (ht : topOf bs n ≠ 0) (h1 : n % baseN bs n ≠ 0) (h : nameN us bs ns (n % baseN bs n) = []) : nameN us bs ns n = [] := by
  rw [name_top hb ht]
  split
  · rfl
  · split
    · rfl
    · rw [if_pos ⟨h1, h⟩]
/-- The parts of a name. -/
theorem name_parts (hb : basesOk bs = true) (ht : topOf bs n ≠ 0) (h0 : n / baseN bs n < baseN bs n) (h1 : 1 < n / baseN bs n → nameN us bs ns (n / baseN bs n) ≠ []) (h2 : n % baseN bs n ≠ 0 → nameN us bs ns (n % baseN bs n) ≠ []) :
    nameN us bs ns n = (if 1 < n / baseN bs n then nameN us bs ns (n / baseN bs n) else []) ++ [ns.getD (topOf bs n - 1) ByteArray.empty] ++ (if n % baseN bs n = 0 then [] else nameN us bs ns (n % baseN bs n)) := by
  rw [name_top hb ht, if_neg (by omega), if_neg (fun h => h1 h.1 h.2), if_neg (fun h => h2 h.1 h.2)]
theorem name_some (hb : basesOk bs = true) (ht : topOf bs n ≠ 0) (h : nameN us bs ns n ≠ []) : n / baseN bs n < baseN bs n ∧ (1 < n / baseN bs n → nameN us bs ns (n / baseN bs n) ≠ []) ∧ (n % baseN bs n ≠ 0 → nameN us bs ns (n % baseN bs n) ≠ []) := by
  refine ⟨?_, fun h1 h2 => h (name_nohead hb ht h1 h2), fun h1 h2 => h (name_norest hb ht h1 h2)⟩
  by_cases h0 : baseN bs n ≤ n / baseN bs n
  · exact absurd (name_over hb ht h0) h
  · omega

theorem name_len (us : List ByteArray) (bs : List Int) (ns : List ByteArray) (hb : basesOk bs = true) : ∀ n, 1 ≤ n → (nameN us bs ns n).length ≤ n := by
  intro n
  induction n using Nat.strongRecOn with
  | _ n ih =>
    intro hn
    by_cases ht : topOf bs n = 0
    · rw [name_unit ht]; split <;> simp <;> omega
    · have hf := base_facts hb ht
      have hd := div_pos' hf.1 hf.2.1
      have i1 := ih _ hd.2.1 hd.1
      rw [name_top hb ht]
      split
      · simp
      · split
        · simp
        · split
          · simp
          · by_cases h0 : n % baseN bs n = 0
            · rw [if_pos h0]
              split <;> simp <;> omega
            · have i2 := ih _ hd.2.2.1 (by omega)
              rw [if_neg h0]
              split <;> simp <;> omega
theorem name_mem (us : List ByteArray) (bs : List Int) (ns : List ByteArray) (hb : basesOk bs = true) (hns : ns.length + 1 = bs.length) : ∀ n, 1 ≤ n → ∀ x ∈ nameN us bs ns n, x ∈ us ++ ns := by
  intro n
  induction n using Nat.strongRecOn with
  | _ n ih =>
    intro hn x hx
    by_cases ht : topOf bs n = 0
    · rw [name_unit ht] at hx
      split at hx
      · cases hx
      · have hlt : n - 1 < us.length := by omega
        have : x = us[n - 1] := by simpa [List.getD_eq_getElem?_getD, hlt] using hx
        rw [this]; exact List.mem_append.2 (.inl (List.getElem_mem hlt))
    · have hf := base_facts hb ht
      have hd := div_pos' hf.1 hf.2.1
      rw [name_top hb ht] at hx
      split at hx
      · cases hx
      · split at hx
        · cases hx
        · split at hx
          · cases hx
          · rcases List.mem_append.1 hx with h | h
            · rcases List.mem_append.1 h with h | h
              · split at h
                · exact ih _ hd.2.1 hd.1 x h
                · cases h
              · have hlt : topOf bs n - 1 < ns.length := by omega
                have : x = ns[topOf bs n - 1] := by simpa [List.getD_eq_getElem?_getD, hlt] using h
                rw [this]; exact List.mem_append.2 (.inr (List.getElem_mem hlt))
            · split at h
              · cases h
              · rename_i h0; exact ih _ hd.2.2.1 (by omega) x h
/-- A base alone is named by its word. -/
theorem name_base (hb : basesOk bs = true) {k : Nat} (h1 : 1 ≤ k) (hk : k < bs.length) (hn : bs.getD k 0 = n) : nameN us bs ns n = [ns.getD (k - 1) ByteArray.empty] ∧ topOf bs n = k := by
  have ht : topOf bs n = k := topOf_eq h1 hk (by omega) (fun i hi hl => by have := bases_mono hb k i hi hl; omega)
  have hb' : baseN bs n = n := by unfold baseN; rw [ht, hn]; rfl
  have h0 : topOf bs n ≠ 0 := by omega
  have hf := base_facts hb h0
  have hd : n / n = 1 := Nat.div_self (by omega)
  refine ⟨?_, ht⟩
  rw [name_parts hb h0 (by rw [hb', hd]; omega) (by rw [hb', hd]; omega) (by rw [hb', Nat.mod_self]; omega), hb', hd, if_neg (by omega), Nat.mod_self, if_pos rfl, ht]
  rfl
end

/-- The place of the base that bounds what is named. -/
def grGo (bs : List Int) (k : Nat) : Nat → Nat
  | 0 => k
  | f + 1 => if k + 1 < bs.length ∧ bs.getD (k + 1) 0 ≤ bs.getD k 0 * bs.getD k 0 then grGo bs (k + 1) f else k
def grAt (bs : List Int) : Nat := grGo bs 1 bs.length
def greatestN (us : List ByteArray) (bs : List Int) : Int := if bs.length = 1 then us.length else min (bs.getD (grAt bs) 0 * bs.getD (grAt bs) 0 - 1) 99999

/-- What is known of the place k while it is looked for. -/
def GrTo (bs : List Int) (k : Nat) : Prop := 1 ≤ k ∧ k < bs.length ∧ ∀ i, 1 ≤ i → i < k → bs.getD (i + 1) 0 ≤ bs.getD i 0 * bs.getD i 0
theorem grGo_spec (bs : List Int) : ∀ f k, GrTo bs k → bs.length ≤ k + f → GrTo bs (grGo bs k f) ∧ (grGo bs k f + 1 < bs.length → bs.getD (grGo bs k f) 0 * bs.getD (grGo bs k f) 0 < bs.getD (grGo bs k f + 1) 0) := by
  intro f
  induction f with
  | zero => intro k h hl; exact ⟨h, fun h2 => by unfold grGo at h2; omega⟩
  | succ f ih =>
    intro k h hl
    rw [grGo]
    by_cases hc : k + 1 < bs.length ∧ bs.getD (k + 1) 0 ≤ bs.getD k 0 * bs.getD k 0
    · rw [if_pos hc]
      refine ih (k + 1) ⟨by omega, hc.1, fun i h1 h2 => ?_⟩ (by omega)
      by_cases e : i = k
      · subst e; exact hc.2
      · exact h.2.2 i h1 (by omega)
    · rw [if_neg hc]
      exact ⟨h, fun h2 => by
        have : ¬ bs.getD (k + 1) 0 ≤ bs.getD k 0 * bs.getD k 0 := fun h3 => hc ⟨h2, h3⟩
        omega⟩
theorem gr_eq {bs : List Int} {k : Nat} (h : GrTo bs k) (he : k + 1 < bs.length → bs.getD k 0 * bs.getD k 0 < bs.getD (k + 1) 0) : grAt bs = k := by
  have hl : 2 ≤ bs.length := by have := h.1; have := h.2.1; omega
  obtain ⟨h1, h2⟩ := grGo_spec bs bs.length 1 ⟨Nat.le_refl _, by omega, fun i _ _ => by omega⟩ (by omega)
  have h1' : GrTo bs (grAt bs) := h1
  have h2' : grAt bs + 1 < bs.length → bs.getD (grAt bs) 0 * bs.getD (grAt bs) 0 < bs.getD (grAt bs + 1) 0 := h2
  rcases Nat.lt_trichotomy (grAt bs) k with hlt | hlt | hlt
  · have := h.2.2 _ h1'.1 hlt
    have := h2' (by have := h.2.1; omega)
    omega
  · exact hlt
  · have := h1'.2.2 _ h.1 hlt
    have := he (by have := h1'.2.1; omega)
    omega
theorem gr_at {bs : List Int} (hl : 2 ≤ bs.length) : GrTo bs (grAt bs) ∧ (grAt bs + 1 < bs.length → bs.getD (grAt bs) 0 * bs.getD (grAt bs) 0 < bs.getD (grAt bs + 1) 0) :=
  grGo_spec bs bs.length 1 ⟨Nat.le_refl _, by omega, fun i _ _ => by omega⟩ (by omega)

section
variable {us : List ByteArray} {bs : List Int} {ns : List ByteArray}
theorem mul_nat {x : Int} {b : Nat} (h : (b : Int) = x) : x * x = ((b * b : Nat) : Int) := by rw [← h]; push_cast; rfl
/-- All below the square of the base that bounds it are named. -/
theorem named_below (hb : basesOk bs = true) (h2 : 2 ≤ bs.length) (hu : bs.getD 1 0 = us.length + 1) : ∀ n : Nat, 1 ≤ n → (n : Int) < bs.getD (grAt bs) 0 * bs.getD (grAt bs) 0 → nameN us bs ns n ≠ [] := by
  obtain ⟨hg, hge⟩ := gr_at h2
  intro n
  induction n using Nat.strongRecOn with
  | _ n ih =>
    intro hn hlt
    by_cases ht : topOf bs n = 0
    · rw [name_unit ht]
      have := topTo_above bs n bs.length 1 (by have : topTo bs n bs.length = 0 := ht; omega) (by omega)
      rw [if_neg (by omega)]
      simp
    · have hf := base_facts hb ht
      have hd := div_pos' hf.1 hf.2.1
      have hsq : n / baseN bs n < baseN bs n := by
        rw [Nat.div_lt_iff_lt_mul (by omega)]
        have hmn := mul_nat hf.2.2.1
        rcases Nat.lt_trichotomy (topOf bs n) (grAt bs) with h | h | h
        · have h3 := hg.2.2 _ (by omega) h
          have h4 := topTo_above bs n bs.length (topOf bs n + 1) (by show topOf bs n < _; omega) (by have := hg.2.1; omega)
          omega
        · rw [← h] at hlt; omega
        · have h5 := hge (by omega)
          have h6 : bs.getD (grAt bs + 1) 0 ≤ bs.getD (topOf bs n) 0 := by
            by_cases e : grAt bs + 1 = topOf bs n
            · rw [e]; exact Int.le_refl _
            · exact Int.le_of_lt (bases_mono hb _ _ (by omega) hf.2.2.2.1)
          omega
      rw [name_parts hb ht hsq (fun _ => ih _ hd.2.1 hd.1 (by omega)) (fun h0 => ih _ hd.2.2.1 (by omega) (by omega))]
      simp
/-- The number behind the last one that is named has no name. -/
theorem unnamed_at (hb : basesOk bs = true) (h2 : 2 ≤ bs.length) {n : Nat} (hn : (n : Int) = bs.getD (grAt bs) 0 * bs.getD (grAt bs) 0) : nameN us bs ns n = [] := by
  obtain ⟨hg, hge⟩ := gr_at h2
  have hp := bases_pos hb (grAt bs) hg.2.1
  have hle : bs.getD (grAt bs) 0 ≤ n := by
    rw [hn]
    have := Int.mul_le_mul_of_nonneg_right hp.1 (show (0 : Int) ≤ bs.getD (grAt bs) 0 by omega)
    omega
  have ht : topOf bs n = grAt bs := topOf_eq hg.1 hg.2.1 hle (fun i hi hl => by
    have h5 := hge (by omega)
    have h6 : bs.getD (grAt bs + 1) 0 ≤ bs.getD i 0 := by
      by_cases e : grAt bs + 1 = i
      · rw [e]; exact Int.le_refl _
      · exact Int.le_of_lt (bases_mono hb _ _ (by omega) hl)
    omega)
  have h0 : topOf bs n ≠ 0 := by have := hg.1; omega
  have hf := base_facts hb h0
  have hbb : n = baseN bs n * baseN bs n := by
    have hm := mul_nat hf.2.2.1
    rw [ht, ← hn] at hm
    omega
  refine name_over hb h0 ?_
  exact Nat.le_of_eq (Nat.div_eq_of_eq_mul_left (by omega) hbb).symm
theorem named_one (h : tongueOk us bs ns = true) : nameN us bs ns 1 ≠ [] := by
  obtain ⟨h1, hb, hn, h2, hw, hd⟩ := (tongueOk_iff _ _ _).1 h
  have ht : topOf bs (1 : Nat) = 0 := topOf_zero fun i h1 hl => by
    have := bases_mono hb 0 i (by omega) hl
    rw [bases_one hb] at this
    simpa using this
  rw [name_unit ht, if_neg (by omega)]
  simp
end
end Go.Proofs.Ytbghgpgpljdjkaa

/- THold -/
namespace Go.Proofs.Ytbghgpgpljdjkaa
open Go.RowKit

theorem toStringS_any (A : Option Addr) (n c : Nat) (xs : List ByteArray) (w : World) (h : Strs w A n c xs) (hn : n ≤ 1048576) :
    Calls Try.prog 22 #[.slice A n c] w fun e w' => e = .returned (.slice (some ⟨w.heap.size, 0, none⟩) n n) ∧ w'.ownsRow w.heap.size 9 1 (.slice (some ⟨w.heap.size, 0, none⟩) n n) n (xs.map Value.string) ∧ Below w.heap.size w w' := by
  obtain ⟨i0, hi, hz0, hz1, hz2⟩ := info_parts str_info
  obtain ⟨rfl, hcap, h⟩ := h
  have hmk := fun W => run_make_rowN (P := Try.prog) 23 9 i0 _ Try.underlying23 hi hz0 .i64 .i64 xs.length xs.length (Nat.le_refl _) (by rw [hz2]; omega) (by omega) W
  rw [hz1] at hmk
  go_enter Try.func22, Try.ntmps22
  go_wp2
  go_loopw [4] (fun i wr => ∃ (k : Nat) (cs : Array Value), k ≤ xs.length ∧ i = .int .i64 k ∧ cs.size = xs.length ∧ (∀ j, j < k → cs[j]? = some (.string (xs.getD j ByteArray.empty))) ∧ Blk wr w.heap.size 9 cs ∧ Below w.heap.size w wr) (fun i _ => xs.length - (intOf i).toNat)
  case atStart => exact ⟨0, _, Nat.zero_le _, rfl, size_madeCells _ _, fun j hj => absurd hj (by omega), Blk.new _ _ _, (Below.refl _ _).alloc (Nat.le_refl _) _⟩
  case round =>
    obtain ⟨k, cs, hk, rfl, hcs, hj, hb, hB⟩ := hrel
    by_cases hlt : k < xs.length
    · obtain ⟨b, o, rfl, hbo, h⟩ := h (by omega)
      have c1 := (hB.cell (p := ⟨b, o + k, none⟩) hbo).trans (h k hlt)
      have c2 := hb.cell k
      have f2 := hb.frozen k
      rw [Array.getElem?_eq_getElem (by omega)] at c2
      have HB := hb.set_ k (.string (xs.getD k ByteArray.empty))
      have HJ : ∀ j, j < k + 1 → (cs.setIfInBounds k (.string (xs.getD k ByteArray.empty)))[j]? = some (.string (xs.getD j ByteArray.empty)) := by
        intro j hjk
        rw [Array.getElem?_setIfInBounds]
        by_cases he : k = j
        · subst he; simp [show k < cs.size by omega]
        · rw [if_neg he]; exact hj j (by omega)
      have HBel := hB.setCell (p := ⟨w.heap.size, k, none⟩) (Nat.le_refl _) (.string (xs.getD k ByteArray.empty))
      generalize xs.getD k ByteArray.empty = x at *
      replace HB := Lib.hid HB
      replace HJ := Lib.hid HJ
      replace HBel := Lib.hid HBel
      clear h hj hb hmk
      go_wp2
      go_roundw
      case rel => exact ⟨k+1, _, by omega, by go_num, by simpa using hcs, HJ.out, HB.out, HBel.out⟩
      case measure => simp [intOf]; omega
    · obtain rfl : k = xs.length := by omega
      have hcs2 : cs = (xs.map Value.string).toArray := by
        apply Array.ext_getElem?
        intro i
        by_cases hi : i < xs.length
        · rw [hj i hi]; simp [hi]
        · rw [Array.getElem?_eq_none (by omega), Array.getElem?_eq_none (by simp; omega)]
      subst hcs2
      have HO := Lib.hid (owns_blk (B := w.heap.size) (n := xs.length) hb (by simp) (Nat.le_refl _) (by unfold maxLen; omega))
      replace hB := Lib.hid hB
      clear h hj hb hmk
      go_wp2
      go_ret
      exact ⟨rfl, HO.out, hB.out⟩

theorem takeS_go {k : Nat} (xs ys : List ByteArray) (hk : k < xs.length) (hl : xs.length = ys.length) (h : xs.take k = ys.take k) : xs.getD k ByteArray.empty = ys.getD k ByteArray.empty → xs.take (k+1) = ys.take (k+1) := by
  intro he
  rw [List.take_succ_eq_append_getElem hk, List.take_succ_eq_append_getElem (by omega : k < ys.length), h]
  simp only [List.getD_eq_getElem?_getD, List.getElem?_eq_getElem hk, List.getElem?_eq_getElem (by omega : k < ys.length), Option.getD_some] at he
  rw [he]
theorem takeS_end {k : Nat} (xs ys : List ByteArray) (hk : xs.length ≤ k) (hl : xs.length = ys.length) (h : xs.take k = ys.take k) : xs = ys := by
  rwa [List.take_of_length_le hk, List.take_of_length_le (by omega)] at h

set_option maxHeartbeats 1000000 in
theorem eqStringS_any (A A' : Option Addr) (n c n' c' : Nat) (xs ys : List ByteArray) (w : World) (h : Strs w A n c xs) (h' : Strs w A' n' c' ys) (hn : n ≤ 2097152) (hn' : n' ≤ 2097152) :
    Calls Try.prog 23 #[.slice A n c, .slice A' n' c'] w fun e w' => e = .returned (.bool (decide (xs = ys))) ∧ ∃ m, w' = w.drewN m := by
  obtain ⟨rfl, hcap, h⟩ := h
  obtain ⟨rfl, hcap', h'⟩ := h'
  by_cases hl : xs.length = ys.length
  · rw [← hl] at h' hcap' ⊢
    replace hl := Lib.hid hl
    have heq : ((xs.length : Int) != xs.length) = false := by simp
    go_enter Try.func23, Try.ntmps23
    go_wp2
    go_loopw [5] (fun i wr => ∃ k m : Nat, k ≤ xs.length ∧ i = .int .i64 k ∧ xs.take k = ys.take k ∧ wr = w.drewN m) (fun i _ => xs.length - (intOf i).toNat)
    case atStart => exact ⟨0, 0, Nat.zero_le _, rfl, by simp, rfl⟩
    case round =>
      obtain ⟨k, m, hk, rfl, hu, rfl⟩ := hrel
      by_cases hlt : k < xs.length
      · obtain ⟨b, o, rfl, _, h⟩ := h (by omega)
        obtain ⟨b', o', rfl, _, h'⟩ := h' (by omega)
        have c1 := h k hlt
        have c2 := h' k hlt
        have HU := takeS_go (k := k) xs ys hlt hl.out hu
        have HN : ¬ xs.getD k ByteArray.empty = ys.getD k ByteArray.empty → ¬ xs = ys := fun hn he => hn (by rw [he])
        generalize xs.getD k ByteArray.empty = x1 at *
        generalize ys.getD k ByteArray.empty = x2 at *
        replace HU := Lib.hid HU
        replace HN := Lib.hid HN
        clear h h' hu
        by_cases hx : x1 = x2
        · have hx1 : (x1.toList == x2.toList) = true := by rw [str_eq]; exact decide_eq_true hx
          have hx2 : (x1.toList != x2.toList) = false := by rw [bne, hx1]; rfl
          replace hx := Lib.hid hx
          go_wp2
          go_quiet (fail)
          go_wp2
          go_roundw
          case rel => exact ⟨k+1, m+nq, by omega, by go_num, HU.out hx.out, by simp⟩
          case measure => simp [intOf]; omega
        · have hx1 : (x1.toList == x2.toList) = false := by rw [str_eq]; exact decide_eq_false hx
          have hx2 : (x1.toList != x2.toList) = true := by rw [bne, hx1]; rfl
          go_wp2
          go_quiet (fail)
          go_wp2
          go_ret
          exact ⟨ret_bool (by rw [decide_eq_false (HN.out hx)]), m+nq, by simp⟩
      · have HE := Lib.hid (takeS_end xs ys (by omega) hl.out hu)
        clear h h' hu
        go_wp2
        go_ret
        exact ⟨ret_bool (by rw [decide_eq_true HE.out]), m, rfl⟩
  · have hne : xs ≠ ys := fun e => hl (by rw [e])
    have HN := Lib.hid hne
    have hneq : ((xs.length : Int) != ys.length) = true := by rw [bne_iff_ne]; omega
    clear hne
    go_enter Try.func23, Try.ntmps23
    go_wp2
    go_ret
    exact ⟨ret_bool (by rw [decide_eq_false HN.out]), 0, rfl⟩

/-- How much is left behind strings: either nothing (-1), or they were not too long. -/
def Left (left : Int) (n : Nat) (xs : List ByteArray) (r : Int) : Prop := r = -1 ∨ (0 ≤ r ∧ r ≤ left ∧ n ≤ left ∧ ∀ x ∈ xs, (x.size : Int) ≤ left)
def RetLeft (left : Int) (n : Nat) (xs : List ByteArray) (w : World) (e : Ending) (w' : World) : Prop := ∃ r, e = .returned (.int .i64 r) ∧ Left left n xs r ∧ w = w'

set_option maxHeartbeats 1000000 in
theorem szStringS_any (A : Option Addr) (n c : Nat) (xs : List ByteArray) (left : Int) (w : World) (h : Strs w A n c xs) (hc : c ≤ maxLen) (hs : ∀ x ∈ xs, x.size ≤ maxLen) (h0 : 0 ≤ left) (h1 : left ≤ 1048576) :
    Calls Try.prog 21 #[.slice A n c, .int .i64 left] w (RetLeft left n xs w) := by
  unfold maxLen at hc
  obtain ⟨rfl, hcap, h⟩ := h
  have hsz : ∀ k, (xs.getD k ByteArray.empty).size ≤ 9223372036854775807 := fun k => by
    by_cases hk : k < xs.length
    · have := hs _ (List.getElem_mem hk)
      simp only [List.getD_eq_getElem?_getD, List.getElem?_eq_getElem hk, Option.getD_some]
      unfold maxLen at this; omega
    · rw [List.getD, List.getElem?_eq_none (by omega)]; exact Nat.zero_le _
  replace hsz := Lib.hid hsz
  clear hs
  by_cases hl : (xs.length : Int) ≤ left
  · go_enter Try.func21, Try.ntmps21
    go_wp2
    go_loop [1, 5] (fun s1 i => ∃ (k : Nat) (r : Int), k ≤ xs.length ∧ i = .int .i64 k ∧ s1 = .int .i64 r ∧ 0 ≤ r ∧ r ≤ left ∧ (∀ j, j < k → ((xs.getD j ByteArray.empty).size : Int) ≤ left)) (fun _ i => xs.length - (intOf i).toNat)
    case atStart => exact ⟨0, left - xs.length, Nat.zero_le _, rfl, rfl, by omega, by omega, fun j hj => absurd hj (by omega)⟩
    case round =>
      obtain ⟨k, r, hk, rfl, rfl, hr0, hr1, hj⟩ := hrel
      by_cases hlt : k < xs.length
      · obtain ⟨b, o, rfl, hbo, hc⟩ := h (by omega)
        have ck := hc k hlt
        have hz := hsz.out k
        have HJ : ((xs.getD k ByteArray.empty).size : Int) ≤ left → ∀ j, j < k + 1 → ((xs.getD j ByteArray.empty).size : Int) ≤ left := fun hx j hjk => by
          by_cases e : j = k
          · subst e; exact hx
          · exact hj j (by omega)
        generalize xs.getD k ByteArray.empty = x at *
        replace HJ := Lib.hid HJ
        clear hc hj h
        by_cases hx : (x.size : Int) ≤ r
        · go_wp2
          go_round
          case rel => exact ⟨k+1, r - x.size, by omega, by go_num, rfl, by omega, by omega, HJ.out (by omega)⟩
          case measure => simp [intOf]; omega
        · go_wp2
          go_ret
          exact ⟨-1, rfl, .inl rfl, rfl⟩
      · obtain rfl : k = xs.length := by omega
        have HL : Left left xs.length xs r := .inr ⟨hr0, hr1, hl, fun x hx => by
          obtain ⟨j, hjl, rfl⟩ := List.mem_iff_getElem.1 hx
          have := hj j hjl
          simpa [List.getD_eq_getElem?_getD, hjl] using this⟩
        replace HL := Lib.hid HL
        clear hj h
        go_wp2
        go_ret
        exact ⟨r, rfl, HL.out, rfl⟩
  · go_enter Try.func21, Try.ntmps21
    go_wp2
    go_ret
    exact ⟨-1, rfl, .inl rfl, rfl⟩

end Go.Proofs.Ytbghgpgpljdjkaa

/- Same -/
namespace Go.Proofs.Ytbghgpgpljdjkaa
open Go.RowKit

set_option maxHeartbeats 1000000 in
theorem sameTexts_any (A A' : Option Addr) (n c n' c' : Nat) (xs ys : List ByteArray) (w : World) (h : Strs w A n c xs) (h' : Strs w A' n' c' ys) (hn : n ≤ 2097152) (hn' : n' ≤ 2097152) :
    Calls Try.prog 38 #[.slice A n c, .slice A' n' c'] w fun e w' => e = .returned (.bool (decide (xs = ys))) ∧ ∃ m, w' = w.drewN m := by
  obtain ⟨rfl, hcap, h⟩ := h
  obtain ⟨rfl, hcap', h'⟩ := h'
  by_cases hl : xs.length = ys.length
  · rw [← hl] at h' hcap' ⊢
    replace hl := Lib.hid hl
    have heq : ((xs.length : Int) != xs.length) = false := by simp
    go_enter Try.func38, Try.ntmps38
    go_wp2
    go_loopw [5] (fun i wr => ∃ k m : Nat, k ≤ xs.length ∧ i = .int .i64 k ∧ xs.take k = ys.take k ∧ wr = w.drewN m) (fun i _ => xs.length - (intOf i).toNat)
    case atStart => exact ⟨0, 0, Nat.zero_le _, rfl, by simp, rfl⟩
    case round =>
      obtain ⟨k, m, hk, rfl, hu, rfl⟩ := hrel
      by_cases hlt : k < xs.length
      · obtain ⟨b, o, rfl, _, h⟩ := h (by omega)
        obtain ⟨b', o', rfl, _, h'⟩ := h' (by omega)
        have c1 := h k hlt
        have c2 := h' k hlt
        have HU := takeS_go (k := k) xs ys hlt hl.out hu
        have HN : ¬ xs.getD k ByteArray.empty = ys.getD k ByteArray.empty → ¬ xs = ys := fun hn he => hn (by rw [he])
        generalize xs.getD k ByteArray.empty = x1 at *
        generalize ys.getD k ByteArray.empty = x2 at *
        replace HU := Lib.hid HU
        replace HN := Lib.hid HN
        clear h h' hu
        by_cases hx : x1 = x2
        · have hx1 : (x1.toList == x2.toList) = true := by rw [str_eq]; exact decide_eq_true hx
          have hx2 : (x1.toList != x2.toList) = false := by rw [bne, hx1]; rfl
          replace hx := Lib.hid hx
          go_wp2
          go_quiet (fail)
          go_wp2
          go_roundw
          case rel => exact ⟨k+1, m+nq, by omega, by go_num, HU.out hx.out, by simp⟩
          case measure => simp [intOf]; omega
        · have hx1 : (x1.toList == x2.toList) = false := by rw [str_eq]; exact decide_eq_false hx
          have hx2 : (x1.toList != x2.toList) = true := by rw [bne, hx1]; rfl
          go_wp2
          go_quiet (fail)
          go_wp2
          go_ret
          exact ⟨ret_bool (by rw [decide_eq_false (HN.out hx)]), m+nq, by simp⟩
      · have HE := Lib.hid (takeS_end xs ys (by omega) hl.out hu)
        clear h h' hu
        go_wp2
        go_ret
        exact ⟨ret_bool (by rw [decide_eq_true HE.out]), m, rfl⟩
  · have hne : xs ≠ ys := fun e => hl (by rw [e])
    have HN := Lib.hid hne
    have hneq : ((xs.length : Int) != ys.length) = true := by rw [bne_iff_ne]; omega
    clear hne
    go_enter Try.func38, Try.ntmps38
    go_wp2
    go_ret
    exact ⟨ret_bool (by rw [decide_eq_false HN.out]), 0, rfl⟩

end Go.Proofs.Ytbghgpgpljdjkaa
