/-
  What words stand for, as plain mathematics.
-/
import Derived.Test.YteemgkabhkdeaaaDoorWords
namespace Go.Proofs.YteemgkabhkdeaaaDoor
open Go.RowKit Go.WideMaps Go.Maps

def place (ws : List ByteArray) (x : ByteArray) : Nat := ws.findIdx (fun y => decide (y = x))
theorem place_le (ws : List ByteArray) (x : ByteArray) : place ws x ≤ ws.length := List.findIdx_le_length
theorem place_at {ws : List ByteArray} {x : ByteArray} (h : place ws x < ws.length) : ws.getD (place ws x) ByteArray.empty = x := by
  have := List.findIdx_getElem (w := h)
  simp only [decide_eq_true_eq] at this
  simp only [List.getD_eq_getElem?_getD, List.getElem?_eq_getElem h, Option.getD_some]
  exact this
theorem place_first {ws : List ByteArray} {x : ByteArray} {i : Nat} (h : i < place ws x) : ws.getD i ByteArray.empty ≠ x := by
  have hl : i < ws.length := Nat.lt_of_lt_of_le h (place_le ws x)
  have := List.not_of_lt_findIdx h
  simp only [decide_eq_false_iff_not] at this
  simp only [List.getD_eq_getElem?_getD, List.getElem?_eq_getElem hl, Option.getD_some]
  simpa using this
theorem place_eq {ws : List ByteArray} {x : ByteArray} {k : Nat} (hk : k < ws.length) (h : ∀ i, i < k → ws.getD i ByteArray.empty ≠ x) (e : ws.getD k ByteArray.empty = x) : place ws x = k := by
  rcases Nat.lt_trichotomy (place ws x) k with h1 | h1 | h1
  · exact absurd (place_at (by omega)) (h _ h1)
  · exact h1
  · exact absurd e (place_first h1)
theorem place_none {ws : List ByteArray} {x : ByteArray} (h : ∀ i, i < ws.length → ws.getD i ByteArray.empty ≠ x) : place ws x = ws.length := by
  rcases Nat.lt_or_ge (place ws x) ws.length with h1 | h1
  · exact absurd (place_at h1) (h _ h1)
  · have := place_le ws x; omega
theorem place_mem {ws : List ByteArray} {x : ByteArray} : place ws x < ws.length ↔ x ∈ ws := by
  constructor
  · intro h
    rw [← place_at h]
    simp only [List.getD_eq_getElem?_getD, List.getElem?_eq_getElem h, Option.getD_some]
    exact List.getElem_mem h
  · intro h
    obtain ⟨j, hj, rfl⟩ := List.mem_iff_getElem.1 h
    rcases Nat.lt_or_ge (place ws ws[j]) ws.length with h1 | h1
    · exact h1
    · exact absurd (by simp [List.getD_eq_getElem?_getD, hj]) (place_first (ws := ws) (x := ws[j]) (i := j) (by omega))
theorem place_left {us ns : List ByteArray} {x : ByteArray} (h : place us x < us.length) : place (us ++ ns) x = place us x := by
  refine place_eq (by simp; omega) (fun i hi => ?_) ?_
  · have := place_first hi
    have hl : i < us.length := by omega
    simpa [List.getD_eq_getElem?_getD, List.getElem?_append_left hl] using this
  · have := place_at h
    simpa [List.getD_eq_getElem?_getD, List.getElem?_append_left h] using this
theorem place_right {us ns : List ByteArray} {x : ByteArray} (h : ¬ place us x < us.length) : place (us ++ ns) x = us.length + place ns x := by
  by_cases hn : place ns x < ns.length
  · refine place_eq (by simp; omega) (fun i hi => ?_) ?_
    · by_cases hl : i < us.length
      · have := place_first (ws := us) (x := x) (i := i) (by omega)
        simpa [List.getD_eq_getElem?_getD, List.getElem?_append_left hl] using this
      · have := place_first (ws := ns) (x := x) (i := i - us.length) (by omega)
        simpa [List.getD_eq_getElem?_getD, List.getElem?_append_right (by omega : us.length ≤ i)] using this
    · have := place_at hn
      simpa [List.getD_eq_getElem?_getD, List.getElem?_append_right (by omega : us.length ≤ us.length + place ns x)] using this
  · have h2 := place_le ns x
    have h3 : place ns x = ns.length := by omega
    rw [h3, ← List.length_append]
    refine place_none fun i hi e => ?_
    have : x ∈ us ++ ns := by
      rw [← e]
      simp only [List.getD_eq_getElem?_getD, List.getElem?_eq_getElem hi, Option.getD_some]
      exact List.getElem_mem hi
    rcases List.mem_append.1 this with m | m
    · exact h (place_mem.2 m)
    · exact hn (place_mem.2 m)

/-- The unit of a word. -/
def unitB (t : Tg) (x : ByteArray) : Bool := t.ok && decide (place t.us x < t.us.length)
def unitV (t : Tg) (x : ByteArray) : Int := if unitB t x then (place t.us x : Int) + 1 else -1
/-- The base of a word. -/
def baseB (t : Tg) (x : ByteArray) : Bool := t.ok && decide (place t.ns x < t.ns.length)
def baseV (t : Tg) (x : ByteArray) : Int := if baseB t x then (place t.ns x : Int) + 1 else -1

theorem look_has {ws : List ByteArray} (x : ByteArray) : Maps.has (plD ws ws.length) (keyL x) = decide (place ws x < ws.length) := by
  have h := plD_has ws x ws.length (Nat.le_refl _)
  rw [List.take_length] at h
  by_cases hm : x ∈ ws
  · rw [h.2 hm, decide_eq_true (place_mem.2 hm)]
  · rw [decide_eq_false (fun e => hm (place_mem.1 e))]
    cases hb : Maps.has (plD ws ws.length) (keyL x)
    · rfl
    · exact absurd (h.1 hb) hm
theorem look_at {ws : List ByteArray} (hd : ws.Nodup) {x : ByteArray} (hx : place ws x < ws.length) (z : DataW Unit) : (plD ws ws.length).atKey (keyL x) z = .lit (.int .i64 (place ws x : Int)) := by
  have := plD_at ws hd z ws.length (Nat.le_refl _) (place ws x) hx
  rwa [place_at hx] at this
theorem wordsOf_nodup (t : Tg) : (wordsOf t).Nodup := by
  unfold wordsOf
  cases h : t.ok
  · simp
  · rw [if_pos rfl]; exact ((ok_iff t).1 h).2.2.2.2.2
theorem wordsOf_size {t : Tg} (hf : t.Fine) : ∀ x ∈ wordsOf t, x.size ≤ maxLen := by
  unfold wordsOf
  intro x hx
  split at hx
  · have := hf.size x hx; unfold maxLen; omega
  · simp at hx
theorem wordsOf_len (t : Tg) (hf : t.Fine) : (wordsOf t).length ≤ 2097152 := by
  unfold wordsOf
  have := hf.us; have := hf.ns
  split
  · rw [words_length]; omega
  · simp
theorem two_ret {a b : Int} {c d : Bool} (h : a = b) (h' : c = d) : Ending.returned (.tuple #[.int .i64 a, .bool c]) = .returned (.tuple #[.int .i64 b, .bool d]) := by rw [h, h']
theorem unit_none {t : Tg} {x : ByteArray} (h : place (wordsOf t) x < (wordsOf t).length → t.us.length ≤ place (wordsOf t) x) : unitB t x = false ∧ unitV t x = -1 := by
  have : unitB t x = false := by
    cases ho : t.ok
    · simp [unitB, ho]
    · have hw : wordsOf t = t.us ++ t.ns := by unfold wordsOf; rw [ho]; rfl
      rw [hw] at h
      unfold unitB
      rw [ho, Bool.true_and]
      refine decide_eq_false fun e => ?_
      have := h (by rw [place_left e]; simp; omega)
      rw [place_left e] at this; omega
  exact ⟨this, by unfold unitV; rw [this]; rfl⟩
theorem unit_some {t : Tg} {x : ByteArray} (h : place (wordsOf t) x < (wordsOf t).length) (h2 : place (wordsOf t) x < t.us.length) : unitB t x = true ∧ unitV t x = (place (wordsOf t) x : Int) + 1 := by
  cases ho : t.ok
  · have hw : wordsOf t = [] := by unfold wordsOf; rw [ho]; rfl
    rw [hw] at h; simp at h
  · have hw : wordsOf t = t.us ++ t.ns := by unfold wordsOf; rw [ho]; rfl
    rw [hw] at h h2 ⊢
    have e : place t.us x < t.us.length := by
      by_cases e : place t.us x < t.us.length
      · exact e
      · rw [place_right e] at h2; omega
    have hb : unitB t x = true := by unfold unitB; rw [ho, Bool.true_and]; exact decide_eq_true e
    exact ⟨hb, by unfold unitV; rw [hb, if_pos rfl, place_left e]⟩
theorem base_none {t : Tg} {x : ByteArray} (h : place (wordsOf t) x < (wordsOf t).length → place (wordsOf t) x < t.us.length) : baseB t x = false ∧ baseV t x = -1 := by
  have : baseB t x = false := by
    cases ho : t.ok
    · simp [baseB, ho]
    · have hw : wordsOf t = t.us ++ t.ns := by unfold wordsOf; rw [ho]; rfl
      rw [hw] at h
      unfold baseB
      rw [ho, Bool.true_and]
      refine decide_eq_false fun e => ?_
      have hd := ((ok_iff t).1 ho).2.2.2.2.2
      have hn : ¬ place t.us x < t.us.length := fun e2 =>
        (List.nodup_append.1 hd).2.2 x (place_mem.1 e2) x (place_mem.1 e) rfl
      have := h (by rw [place_right hn]; simp; omega)
      rw [place_right hn] at this; omega
  exact ⟨this, by unfold baseV; rw [this]; rfl⟩
theorem base_some {t : Tg} {x : ByteArray} (h : place (wordsOf t) x < (wordsOf t).length) (h2 : t.us.length ≤ place (wordsOf t) x) : baseB t x = true ∧ baseV t x = (place (wordsOf t) x : Int) - t.us.length + 1 := by
  cases ho : t.ok
  · have hw : wordsOf t = [] := by unfold wordsOf; rw [ho]; rfl
    rw [hw] at h; simp at h
  · have hw : wordsOf t = t.us ++ t.ns := by unfold wordsOf; rw [ho]; rfl
    rw [hw] at h h2 ⊢
    have hn : ¬ place t.us x < t.us.length := fun e => by rw [place_left e] at h2; omega
    rw [place_right hn] at h h2 ⊢
    have e : place t.ns x < t.ns.length := by simp at h; omega
    have hb : baseB t x = true := by unfold baseB; rw [ho, Bool.true_and]; exact decide_eq_true e
    exact ⟨hb, by unfold baseV; rw [hb, if_pos rfl]; omega⟩
/-- Of the first words none is x. -/
def noneTo (ws : List ByteArray) (x : ByteArray) (k : Nat) : Prop := ∀ i, i < k → ws.getD i ByteArray.empty ≠ x
theorem none_go {ws : List ByteArray} {x : ByteArray} {k : Nat} (h : noneTo ws x k) (e : ¬ ws.getD k ByteArray.empty = x) : noneTo ws x (k+1) := ne_go h e
theorem unit_at {t : Tg} {x : ByteArray} {k : Nat} (ho : t.ok = true) (hk : k < t.us.length) (h : noneTo t.us x k) (e : t.us.getD k ByteArray.empty = x) : unitB t x = true ∧ unitV t x = (k : Int) + 1 := by
  have hp := place_eq hk h e
  have hb : unitB t x = true := by unfold unitB; rw [ho, hp, Bool.true_and]; exact decide_eq_true hk
  exact ⟨hb, by unfold unitV; rw [hb, if_pos rfl, hp]⟩
theorem unit_no {t : Tg} {x : ByteArray} (h : t.ok = false ∨ noneTo t.us x t.us.length) : unitB t x = false ∧ unitV t x = -1 := by
  have hb : unitB t x = false := by
    rcases h with h | h
    · simp [unitB, h]
    · unfold unitB; rw [place_none h]; simp
  exact ⟨hb, by unfold unitV; rw [hb]; rfl⟩
theorem base_at {t : Tg} {x : ByteArray} {k : Nat} (ho : t.ok = true) (hk : k < t.ns.length) (h : noneTo t.ns x k) (e : t.ns.getD k ByteArray.empty = x) : baseB t x = true ∧ baseV t x = (k : Int) + 1 := by
  have hp := place_eq hk h e
  have hb : baseB t x = true := by unfold baseB; rw [ho, hp, Bool.true_and]; exact decide_eq_true hk
  exact ⟨hb, by unfold baseV; rw [hb, if_pos rfl, hp]⟩
theorem base_no {t : Tg} {x : ByteArray} (h : t.ok = false ∨ noneTo t.ns x t.ns.length) : baseB t x = false ∧ baseV t x = -1 := by
  have hb : baseB t x = false := by
    rcases h with h | h
    · simp [baseB, h]
    · unfold baseB; rw [place_none h]; simp
  exact ⟨hb, by unfold baseV; rw [hb]; rfl⟩
end Go.Proofs.YteemgkabhkdeaaaDoor
