/-
  Contracts of UnitOf and BaseOf.
-/
import Derived.Test.YtdmldgikfjgmhaaWords
namespace Go.Proofs.Ytdmldgikfjgmhaa
open Go.RowKit Go.WideMaps Go.Maps

/-- The place of a word; the number of words if it is none of them. -/
def place (ws : List ByteArray) (x : ByteArray) : Nat := ws.findIdx (fun y => decide (y = x))
theorem place_le (ws : List ByteArray) (x : ByteArray) : place ws x ≤ ws.length := List.findIdx_le_length
theorem place_at {ws : List ByteArray} {x : ByteArray} (h : place ws x < ws.length) : ws.getD (place ws x) ByteArray.empty = x := by
  have := List.findIdx_getElem (w := h)
  simp only [decide_eq_true_eq] at this
  simp only [List.getD_eq_getElem?_getD, List.getElem?_eq_getElem h, Option.getD_some]
  exact this
theorem place_first {ws : List ByteArray} {x : ByteArray} {i : Nat} (h : i < place ws x) : ws.getD i ByteArray.empty ≠ x := by
  have hl : i < ws.length := Nat.lt_of_lt_of_le h (place_le ws x)
  have := List.not_of_lt_findIdx h
  simp only [decide_eq_false_iff_not] at this
  simp only [List.getD_eq_getElem?_getD, List.getElem?_eq_getElem hl, Option.getD_some]
  simpa using this
theorem place_eq {ws : List ByteArray} {x : ByteArray} {k : Nat} (hk : k < ws.length) (h : ∀ i, i < k → ws.getD i ByteArray.empty ≠ x) (e : ws.getD k ByteArray.empty = x) : place ws x = k := by
  rcases Nat.lt_trichotomy (place ws x) k with h1 | h1 | h1
  · exact absurd (place_at (by omega)) (h _ h1)
  · exact h1
  · exact absurd e (place_first h1)
theorem place_none {ws : List ByteArray} {x : ByteArray} (h : ∀ i, i < ws.length → ws.getD i ByteArray.empty ≠ x) : place ws x = ws.length := by
  rcases Nat.lt_or_ge (place ws x) ws.length with h1 | h1
  · exact absurd (place_at h1) (h _ h1)
  · have := place_le ws x; omega
theorem place_mem {ws : List ByteArray} {x : ByteArray} : place ws x < ws.length ↔ x ∈ ws := by
  constructor
  · intro h
    rw [← place_at h]
    simp only [List.getD_eq_getElem?_getD, List.getElem?_eq_getElem h, Option.getD_some]
    exact List.getElem_mem h
  · intro h
    obtain ⟨j, hj, rfl⟩ := List.mem_iff_getElem.1 h
    rcases Nat.lt_or_ge (place ws ws[j]) ws.length with h1 | h1
    · exact h1
    · exact absurd (by simp [List.getD_eq_getElem?_getD, hj]) (place_first (ws := ws) (x := ws[j]) (i := j) (by omega))
theorem place_left {us ns : List ByteArray} {x : ByteArray} (h : place us x < us.length) : place (us ++ ns) x = place us x := by
  refine place_eq (by simp; omega) (fun i hi => ?_) ?_
  · have := place_first hi
    have hl : i < us.length := by omega
    simpa [List.getD_eq_getElem?_getD, List.getElem?_append_left hl] using this
  · have := place_at h
    simpa [List.getD_eq_getElem?_getD, List.getElem?_append_left h] using this
theorem place_right {us ns : List ByteArray} {x : ByteArray} (h : ¬ place us x < us.length) : place (us ++ ns) x = us.length + place ns x := by
  by_cases hn : place ns x < ns.length
  · refine place_eq (by simp; omega) (fun i hi => ?_) ?_
    · by_cases hl : i < us.length
      · have := place_first (ws := us) (x := x) (i := i) (by omega)
        simpa [List.getD_eq_getElem?_getD, List.getElem?_append_left hl] using this
      · have := place_first (ws := ns) (x := x) (i := i - us.length) (by omega)
        simpa [List.getD_eq_getElem?_getD, List.getElem?_append_right (by omega : us.length ≤ i)] using this
    · have := place_at hn
      simpa [List.getD_eq_getElem?_getD, List.getElem?_append_right (by omega : us.length ≤ us.length + place ns x)] using this
  · have h2 := place_le ns x
    have h3 : place ns x = ns.length := by omega
    rw [h3, ← List.length_append]
    refine place_none fun i hi e => ?_
    have : x ∈ us ++ ns := by
      rw [← e]
      simp only [List.getD_eq_getElem?_getD, List.getElem?_eq_getElem hi, Option.getD_some]
      exact List.getElem_mem hi
    rcases List.mem_append.1 this with m | m
    · exact h (place_mem.2 m)
    · exact hn (place_mem.2 m)

/-- The unit of a word. -/
def unitB (t : Tg) (x : ByteArray) : Bool := t.ok && decide (place t.us x < t.us.length)
def unitV (t : Tg) (x : ByteArray) : Int := if unitB t x then (place t.us x : Int) + 1 else -1
/-- The base of a word. -/
def baseB (t : Tg) (x : ByteArray) : Bool := t.ok && decide (place t.ns x < t.ns.length)
def baseV (t : Tg) (x : ByteArray) : Int := if baseB t x then (place t.ns x : Int) + 1 else -1

theorem look_has {ws : List ByteArray} (x : ByteArray) : Maps.has (plD ws ws.length) (keyL x) = decide (place ws x < ws.length) := by
  have h := plD_has ws x ws.length (Nat.le_refl _)
  rw [List.take_length] at h
  by_cases hm : x ∈ ws
  · rw [h.2 hm, decide_eq_true (place_mem.2 hm)]
  · rw [decide_eq_false (fun e => hm (place_mem.1 e))]
    cases hb : Maps.has (plD ws ws.length) (keyL x)
    · rfl
    · exact absurd (h.1 hb) hm
theorem look_at {ws : List ByteArray} (hd : ws.Nodup) {x : ByteArray} (hx : place ws x < ws.length) (z : DataW Unit) : (plD ws ws.length).atKey (keyL x) z = .lit (.int .i64 (place ws x : Int)) := by
  have := plD_at ws hd z ws.length (Nat.le_refl _) (place ws x) hx
  rwa [place_at hx] at this
theorem wordsOf_nodup (t : Tg) : (wordsOf t).Nodup := by
  unfold wordsOf
  cases h : t.ok
  · simp
  · rw [if_pos rfl]; exact ((ok_iff t).1 h).2.2.2.2.2
theorem wordsOf_size {t : Tg} (hf : t.Fine) : ∀ x ∈ wordsOf t, x.size ≤ maxLen := by
  unfold wordsOf
  intro x hx
  split at hx
  · have := hf.size x hx; unfold maxLen; omega
  · simp at hx
theorem wordsOf_len (t : Tg) (hf : t.Fine) : (wordsOf t).length ≤ 2097152 := by
  unfold wordsOf
  have := hf.us; have := hf.ns
  split
  · rw [words_length]; omega
  · simp
theorem two_ret {a b : Int} {c d : Bool} (h : a = b) (h' : c = d) : Ending.returned (.tuple #[.int .i64 a, .bool c]) = .returned (.tuple #[.int .i64 b, .bool d]) := by rw [h, h']
theorem unit_none {t : Tg} {x : ByteArray} (h : place (wordsOf t) x < (wordsOf t).length → t.us.length ≤ place (wordsOf t) x) : unitB t x = false ∧ unitV t x = -1 := by
  have : unitB t x = false := by
    cases ho : t.ok
    · simp [unitB, ho]
    · have hw : wordsOf t = t.us ++ t.ns := by unfold wordsOf; rw [ho]; rfl
      rw [hw] at h
      unfold unitB
      rw [ho, Bool.true_and]
      refine decide_eq_false fun e => ?_
      have := h (by rw [place_left e]; simp; omega)
      rw [place_left e] at this; omega
  exact ⟨this, by unfold unitV; rw [this]; rfl⟩
theorem unit_some {t : Tg} {x : ByteArray} (h : place (wordsOf t) x < (wordsOf t).length) (h2 : place (wordsOf t) x < t.us.length) : unitB t x = true ∧ unitV t x = (place (wordsOf t) x : Int) + 1 := by
  cases ho : t.ok
  · have hw : wordsOf t = [] := by unfold wordsOf; rw [ho]; rfl
    rw [hw] at h; simp at h
  · have hw : wordsOf t = t.us ++ t.ns := by unfold wordsOf; rw [ho]; rfl
    rw [hw] at h h2 ⊢
    have e : place t.us x < t.us.length := by
      by_cases e : place t.us x < t.us.length
      · exact e
      · rw [place_right e] at h2; omega
    have hb : unitB t x = true := by unfold unitB; rw [ho, Bool.true_and]; exact decide_eq_true e
    exact ⟨hb, by unfold unitV; rw [hb, if_pos rfl, place_left e]⟩
theorem base_none {t : Tg} {x : ByteArray} (h : place (wordsOf t) x < (wordsOf t).length → place (wordsOf t) x < t.us.length) : baseB t x = false ∧ baseV t x = -1 := by
  have : baseB t x = false := by
    cases ho : t.ok
    · simp [baseB, ho]
    · have hw : wordsOf t = t.us ++ t.ns := by unfold wordsOf; rw [ho]; rfl
      rw [hw] at h
      unfold baseB
      rw [ho, Bool.true_and]
      refine decide_eq_false fun e => ?_
      have hd := ((ok_iff t).1 ho).2.2.2.2.2
      have hn : ¬ place t.us x < t.us.length := fun e2 =>
        (List.nodup_append.1 hd).2.2 x (place_mem.1 e2) x (place_mem.1 e) rfl
      have := h (by rw [place_right hn]; simp; omega)
      rw [place_right hn] at this; omega
  exact ⟨this, by unfold baseV; rw [this]; rfl⟩
theorem base_some {t : Tg} {x : ByteArray} (h : place (wordsOf t) x < (wordsOf t).length) (h2 : t.us.length ≤ place (wordsOf t) x) : baseB t x = true ∧ baseV t x = (place (wordsOf t) x : Int) - t.us.length + 1 := by
  cases ho : t.ok
  · have hw : wordsOf t = [] := by unfold wordsOf; rw [ho]; rfl
    rw [hw] at h; simp at h
  · have hw : wordsOf t = t.us ++ t.ns := by unfold wordsOf; rw [ho]; rfl
    rw [hw] at h h2 ⊢
    have hn : ¬ place t.us x < t.us.length := fun e => by rw [place_left e] at h2; omega
    rw [place_right hn] at h h2 ⊢
    have e : place t.ns x < t.ns.length := by simp at h; omega
    have hb : baseB t x = true := by unfold baseB; rw [ho, Bool.true_and]; exact decide_eq_true e
    exact ⟨hb, by unfold baseV; rw [hb, if_pos rfl]; omega⟩

set_option maxRecDepth 100000 in
set_option maxHeartbeats 1000000 in
theorem implUnitOf_any (v : Value) (t : Tg) (x : ByteArray) (w : World) (h : Tng w v t) (hf : t.Fine) (hx : x.size ≤ maxLen) :
    Calls Try.prog 23 #[v, .string x] w fun e w' => e = .returned (.tuple #[.int .i64 (unitV t x), .bool (unitB t x)]) ∧ Below w.heap.size w w' := by
  obtain ⟨A1, c1, A2, c2, A3, c3, rfl, h1, h2, h3⟩ := h.ex
  have hBel : Below w.heap.size w (w.alloc (.cells #[.slice A1 t.us.length c1, .slice A2 t.bs.length c2, .slice A3 t.ns.length c3] 30)) := (Below.refl _ _).alloc (Nat.le_refl _) _
  have hT := Lib.hid (implWordsOf_any _ t _ (h.below hBel (Nat.le_refl _)) hf)
  have HX := (Blk.new w 30 #[.slice A1 t.us.length c1, .slice A2 t.bs.length c2, .slice A3 t.ns.length c3])
  have hZ : (w.alloc (.cells #[.slice A1 t.us.length c1, .slice A2 t.bs.length c2, .slice A3 t.ns.length c3] 30)).heap.size = w.heap.size + 1 := by simp
  replace HX := Lib.hid HX
  replace hBel := Lib.hid hBel
  replace hZ := Lib.hid hZ
  have hu := hf.us
  have HN := Lib.hid (unit_none (t := t) (x := x))
  have HS := Lib.hid (unit_some (t := t) (x := x))
  have hsz := Lib.hid (wordsOf_size hf)
  have hln := Lib.hid (wordsOf_len t hf)
  have hnd := Lib.hid (wordsOf_nodup t)
  have hkey := Lib.hid (keyOf_string_mk (P := Try.prog) Try.underlying9 hx)
  clear h h1 h2 h3 hf
  go_enter Try.func23, Try.ntmps23
  go_wp2_with (fail)
  refine hT.out.mono ?_
  rintro e w1 ⟨v1, rfl, ho1, hb1⟩
  clear hT
  have hB1 := hBel.out.trans (hb1.mono (by rw [hZ.out]; omega))
  have hX1 := HX.out.below hb1 (by rw [hZ.out]; omega)
  obtain ⟨A, c, rfl, hS⟩ := ho1.strs
  generalize wordsOf t = ws at *
  clear hb1 ho1
  replace hB1 := Lib.hid hB1
  replace hX1 := Lib.hid hX1
  go_wp2_with (fail)
  refine (places_any A _ c ws w1 hS hln.out hsz.out).mono ?_
  rintro e w2 ⟨rfl, hp, hb2⟩
  have hX2 := hX1.out.below hb2 hX1.out.lt
  have hB2 := hB1.out.trans (hb2.mono hB1.out.size)
  have x0 : w2.cell? ⟨w.heap.size, 0, none⟩ = some (.slice A1 t.us.length c1) := hX2.cell 0
  clear hX2 hb2 hS hX1 hB1
  replace hB2 := Lib.hid hB2
  by_cases hpl : place ws x < ws.length
  · have hat := look_at hnd.out hpl (.lit (.int .i64 0))
    have hhas := look_has (ws := ws) x
    rw [decide_eq_true hpl] at hhas
    replace hat := Lib.hid hat
    replace hhas := Lib.hid hhas
    have hple : place ws x ≤ ws.length := place_le _ _
    have hln2 := hln.out
    by_cases hpu : place ws x < t.us.length
    · replace HS := Lib.hid (HS.out hpl hpu)
      generalize place ws x = j at *
      go_wp2_with (at_lookup; refine wpList_lookup_own_ok_int _ rfl _ _ _ rfl 9 3 .i64 keyLaw Try.underlying60 Try.underlying3 (zeroInt _) w1.heap.size _ _ rfl hp _ _ rfl hkey.out ?_; intro c hc hwc; rw [hat.out] at hc; injection hc with hc; injection hc with _ hc; subst hc; rw [hhas.out]; clear hwc)
      go_ret2
      exact ⟨two_ret HS.out.2.symm HS.out.1.symm, hB2.out⟩
    · replace HN := Lib.hid (HN.out (fun _ => by omega))
      generalize place ws x = j at *
      go_wp2_with (at_lookup; refine wpList_lookup_own_ok_int _ rfl _ _ _ rfl 9 3 .i64 keyLaw Try.underlying60 Try.underlying3 (zeroInt _) w1.heap.size _ _ rfl hp _ _ rfl hkey.out ?_; intro c hc hwc; rw [hat.out] at hc; injection hc with hc; injection hc with _ hc; subst hc; rw [hhas.out]; clear hwc)
      go_ret2
      exact ⟨two_ret HN.out.2.symm HN.out.1.symm, hB2.out⟩
  · have hhas := look_has (ws := ws) x
    rw [decide_eq_false hpl] at hhas
    replace hhas := Lib.hid hhas
    replace HN := Lib.hid (HN.out (fun h => absurd h hpl))
    generalize place ws x = j at *
    go_wp2_with (at_lookup; refine wpList_lookup_own_ok_int _ rfl _ _ _ rfl 9 3 .i64 keyLaw Try.underlying60 Try.underlying3 (zeroInt _) w1.heap.size _ _ rfl hp _ _ rfl hkey.out ?_; intro c hc hwc; rw [hhas.out]; clear hwc hc)
    go_ret2
    exact ⟨two_ret HN.out.2.symm HN.out.1.symm, hB2.out⟩

set_option maxRecDepth 100000 in
set_option maxHeartbeats 1000000 in
theorem implBaseOf_any (v : Value) (t : Tg) (x : ByteArray) (w : World) (h : Tng w v t) (hf : t.Fine) (hx : x.size ≤ maxLen) :
    Calls Try.prog 25 #[v, .string x] w fun e w' => e = .returned (.tuple #[.int .i64 (baseV t x), .bool (baseB t x)]) ∧ Below w.heap.size w w' := by
  obtain ⟨A1, c1, A2, c2, A3, c3, rfl, h1, h2, h3⟩ := h.ex
  have hBel : Below w.heap.size w (w.alloc (.cells #[.slice A1 t.us.length c1, .slice A2 t.bs.length c2, .slice A3 t.ns.length c3] 30)) := (Below.refl _ _).alloc (Nat.le_refl _) _
  have hT := Lib.hid (implWordsOf_any _ t _ (h.below hBel (Nat.le_refl _)) hf)
  have HX := (Blk.new w 30 #[.slice A1 t.us.length c1, .slice A2 t.bs.length c2, .slice A3 t.ns.length c3])
  have hZ : (w.alloc (.cells #[.slice A1 t.us.length c1, .slice A2 t.bs.length c2, .slice A3 t.ns.length c3] 30)).heap.size = w.heap.size + 1 := by simp
  replace HX := Lib.hid HX
  replace hBel := Lib.hid hBel
  replace hZ := Lib.hid hZ
  have hu := hf.us
  have HN := Lib.hid (base_none (t := t) (x := x))
  have HS := Lib.hid (base_some (t := t) (x := x))
  have hsz := Lib.hid (wordsOf_size hf)
  have hln := Lib.hid (wordsOf_len t hf)
  have hnd := Lib.hid (wordsOf_nodup t)
  have hkey := Lib.hid (keyOf_string_mk (P := Try.prog) Try.underlying9 hx)
  clear h h1 h2 h3 hf
  go_enter Try.func25, Try.ntmps25
  go_wp2_with (fail)
  refine hT.out.mono ?_
  rintro e w1 ⟨v1, rfl, ho1, hb1⟩
  clear hT
  have hB1 := hBel.out.trans (hb1.mono (by rw [hZ.out]; omega))
  have hX1 := HX.out.below hb1 (by rw [hZ.out]; omega)
  obtain ⟨A, c, rfl, hS⟩ := ho1.strs
  generalize wordsOf t = ws at *
  clear hb1 ho1
  replace hB1 := Lib.hid hB1
  replace hX1 := Lib.hid hX1
  go_wp2_with (fail)
  refine (places_any A _ c ws w1 hS hln.out hsz.out).mono ?_
  rintro e w2 ⟨rfl, hp, hb2⟩
  have hX2 := hX1.out.below hb2 hX1.out.lt
  have hB2 := hB1.out.trans (hb2.mono hB1.out.size)
  have x0 : w2.cell? ⟨w.heap.size, 0, none⟩ = some (.slice A1 t.us.length c1) := hX2.cell 0
  clear hX2 hb2 hS hX1 hB1
  replace hB2 := Lib.hid hB2
  by_cases hpl : place ws x < ws.length
  · have hat := look_at hnd.out hpl (.lit (.int .i64 0))
    have hhas := look_has (ws := ws) x
    rw [decide_eq_true hpl] at hhas
    replace hat := Lib.hid hat
    replace hhas := Lib.hid hhas
    have hple : place ws x ≤ ws.length := place_le _ _
    have hln2 := hln.out
    by_cases hpu : t.us.length ≤ place ws x
    · replace HS := Lib.hid (HS.out hpl hpu)
      generalize place ws x = j at *
      go_wp2_with (at_lookup; refine wpList_lookup_own_ok_int _ rfl _ _ _ rfl 9 3 .i64 keyLaw Try.underlying60 Try.underlying3 (zeroInt _) w1.heap.size _ _ rfl hp _ _ rfl hkey.out ?_; intro c hc hwc; rw [hat.out] at hc; injection hc with hc; injection hc with _ hc; subst hc; rw [hhas.out]; clear hwc)
      go_ret2
      exact ⟨two_ret HS.out.2.symm HS.out.1.symm, hB2.out⟩
    · replace HN := Lib.hid (HN.out (fun _ => by omega))
      generalize place ws x = j at *
      go_wp2_with (at_lookup; refine wpList_lookup_own_ok_int _ rfl _ _ _ rfl 9 3 .i64 keyLaw Try.underlying60 Try.underlying3 (zeroInt _) w1.heap.size _ _ rfl hp _ _ rfl hkey.out ?_; intro c hc hwc; rw [hat.out] at hc; injection hc with hc; injection hc with _ hc; subst hc; rw [hhas.out]; clear hwc)
      go_ret2
      exact ⟨two_ret HN.out.2.symm HN.out.1.symm, hB2.out⟩
  · have hhas := look_has (ws := ws) x
    rw [decide_eq_false hpl] at hhas
    replace hhas := Lib.hid hhas
    replace HN := Lib.hid (HN.out (fun h => absurd h hpl))
    generalize place ws x = j at *
    go_wp2_with (at_lookup; refine wpList_lookup_own_ok_int _ rfl _ _ _ rfl 9 3 .i64 keyLaw Try.underlying60 Try.underlying3 (zeroInt _) w1.heap.size _ _ rfl hp _ _ rfl hkey.out ?_; intro c hc hwc; rw [hhas.out]; clear hwc hc)
    go_ret2
    exact ⟨two_ret HN.out.2.symm HN.out.1.symm, hB2.out⟩

/-- Of the first words none is x. -/
def noneTo (ws : List ByteArray) (x : ByteArray) (k : Nat) : Prop := ∀ i, i < k → ws.getD i ByteArray.empty ≠ x
theorem none_go {ws : List ByteArray} {x : ByteArray} {k : Nat} (h : noneTo ws x k) (e : ¬ ws.getD k ByteArray.empty = x) : noneTo ws x (k+1) := ne_go h e
theorem unit_at {t : Tg} {x : ByteArray} {k : Nat} (ho : t.ok = true) (hk : k < t.us.length) (h : noneTo t.us x k) (e : t.us.getD k ByteArray.empty = x) : unitB t x = true ∧ unitV t x = (k : Int) + 1 := by
  have hp := place_eq hk h e
  have hb : unitB t x = true := by unfold unitB; rw [ho, hp, Bool.true_and]; exact decide_eq_true hk
  exact ⟨hb, by unfold unitV; rw [hb, if_pos rfl, hp]⟩
theorem unit_no {t : Tg} {x : ByteArray} (h : t.ok = false ∨ noneTo t.us x t.us.length) : unitB t x = false ∧ unitV t x = -1 := by
  have hb : unitB t x = false := by
    rcases h with h | h
    · simp [unitB, h]
    · unfold unitB; rw [place_none h]; simp
  exact ⟨hb, by unfold unitV; rw [hb]; rfl⟩
theorem base_at {t : Tg} {x : ByteArray} {k : Nat} (ho : t.ok = true) (hk : k < t.ns.length) (h : noneTo t.ns x k) (e : t.ns.getD k ByteArray.empty = x) : baseB t x = true ∧ baseV t x = (k : Int) + 1 := by
  have hp := place_eq hk h e
  have hb : baseB t x = true := by unfold baseB; rw [ho, hp, Bool.true_and]; exact decide_eq_true hk
  exact ⟨hb, by unfold baseV; rw [hb, if_pos rfl, hp]⟩
theorem base_no {t : Tg} {x : ByteArray} (h : t.ok = false ∨ noneTo t.ns x t.ns.length) : baseB t x = false ∧ baseV t x = -1 := by
  have hb : baseB t x = false := by
    rcases h with h | h
    · simp [baseB, h]
    · unfold baseB; rw [place_none h]; simp
  exact ⟨hb, by unfold baseV; rw [hb]; rfl⟩

set_option maxRecDepth 100000 in
set_option maxHeartbeats 1000000 in
theorem specUnitOf_any (v : Value) (t : Tg) (x : ByteArray) (w : World) (h : Tng w v t) (hf : t.Fine) :
    Calls Try.prog 24 #[v, .string x] w fun e w' => e = .returned (.tuple #[.int .i64 (unitV t x), .bool (unitB t x)]) ∧ Below w.heap.size w w' := by
  obtain ⟨A1, c1, A2, c2, A3, c3, rfl, h1, h2, h3⟩ := h.ex
  have hBel : Below w.heap.size w (w.alloc (.cells #[.slice A1 t.us.length c1, .slice A2 t.bs.length c2, .slice A3 t.ns.length c3] 30)) := (Below.refl _ _).alloc (Nat.le_refl _) _
  have HX := (Blk.new w 30 #[.slice A1 t.us.length c1, .slice A2 t.bs.length c2, .slice A3 t.ns.length c3])
  have hZ : (w.alloc (.cells #[.slice A1 t.us.length c1, .slice A2 t.bs.length c2, .slice A3 t.ns.length c3] 30)).heap.size = w.heap.size + 1 := by simp
  have HT := Lib.hid (h.below hBel (Nat.le_refl _))
  replace HX := Lib.hid HX
  replace hBel := Lib.hid hBel
  replace hZ := Lib.hid hZ
  have hu := hf.us
  have HF := Lib.hid hf
  have HS := Lib.hid (fun k => unit_at (t := t) (x := x) (k := k))
  have HN := Lib.hid (unit_no (t := t) (x := x))
  have H1 := Lib.hid (h1.below hBel.out (Nat.le_refl _))
  clear h h1 h2 h3 hf
  go_enter Try.func24, Try.ntmps24
  go_wp2
  generalize w.alloc (.cells #[.slice A1 t.us.length c1, .slice A2 t.bs.length c2, .slice A3 t.ns.length c3] 30) = W at *
  go_loopw [6] (fun i wr => ∃ k : Nat, k ≤ t.us.length ∧ i = .int .i64 k ∧ noneTo t.us x k ∧ Below W.heap.size W wr) (fun i _ => t.us.length - (intOf i).toNat)
  case atStart => exact ⟨0, Nat.zero_le _, rfl, fun i hi => absurd hi (by omega), Below.refl _ _⟩
  case round =>
    obtain ⟨k, hk, rfl, hn, hb⟩ := hrel
    have hX := HX.out.below hb (by have := hZ.out; omega)
    have x0 : wr.cell? ⟨w.heap.size, 0, none⟩ = some (.slice A1 t.us.length c1) := hX.cell 0
    have x1 : wr.cell? ⟨w.heap.size, 1, none⟩ = some (.slice A2 t.bs.length c2) := hX.cell 1
    have x2 : wr.cell? ⟨w.heap.size, 2, none⟩ = some (.slice A3 t.ns.length c3) := hX.cell 2
    have hB := hBel.out.trans (hb.mono (by have := hZ.out; omega))
    replace hB := Lib.hid hB
    by_cases hlt : k < t.us.length
    · have hT := specTongueOk_any _ t wr (HT.out.below hb (Nat.le_refl _)) HF.out
      have HSk := Lib.hid (fun ho e => HS.out k ho hlt hn e)
      have HNk := Lib.hid (none_go hn)
      have S1 := Lib.hid (H1.out.below hb (Nat.le_refl _))
      replace hb := Lib.hid hb
      replace hX := Lib.hid hX
      clear hn
      go_wp2_with (fail)
      refine hT.mono ?_
      rintro e w2 ⟨rfl, hb2⟩
      clear hT x0 x1 x2
      have hB2 := hB.out.trans (hb2.mono hB.out.size)
      have hb2' := hb.out.trans (hb2.mono hb.out.size)
      have x0 : w2.cell? ⟨w.heap.size, 0, none⟩ = some (.slice A1 t.us.length c1) := (hX.out.below hb2 hX.out.lt).cell 0
      replace S1 := S1.out.below hb2 (Nat.le_refl _)
      clear hb2
      replace hB2 := Lib.hid hB2
      replace hb2' := Lib.hid hb2'
      cases hok : t.ok
      · have HO := Lib.hid (HN.out (.inl hok))
        clear S1
        go_wp2
        go_ret2
        exact ⟨two_ret HO.out.2.symm HO.out.1.symm, hB2.out⟩
      · obtain ⟨b, o, rfl, hbo, hc⟩ := S1.at_ (by omega)
        have ck := hc k hlt
        have HSk' := HSk.out hok
        have HNk' := HNk.out
        generalize t.us.getD k ByteArray.empty = y at *
        clear hc S1
        by_cases e : y = x
        · have he : (y.toList == x.toList) = true := by rw [str_eq]; exact decide_eq_true e
          have HO := Lib.hid (HSk' e)
          clear HSk' HNk'
          replace e := Lib.hid e
          go_wp2
          go_ret2
          exact ⟨two_ret HO.out.2.symm HO.out.1.symm, hB2.out⟩
        · have he : (y.toList == x.toList) = false := by rw [str_eq]; exact decide_eq_false e
          have HO := Lib.hid (HNk' e)
          clear HSk' HNk'
          replace e := Lib.hid e
          go_wp2
          go_roundw
          case rel => exact ⟨k+1, by omega, by go_num, HO.out, hb2'.out⟩
          case measure => simp [intOf]; omega
    · obtain rfl : k = t.us.length := by omega
      have HO := Lib.hid (HN.out (.inr hn))
      clear hn hb hX x1 x2
      go_wp2
      go_ret2
      exact ⟨two_ret HO.out.2.symm HO.out.1.symm, hB.out⟩

set_option maxRecDepth 100000 in
set_option maxHeartbeats 1000000 in
theorem specBaseOf_any (v : Value) (t : Tg) (x : ByteArray) (w : World) (h : Tng w v t) (hf : t.Fine) :
    Calls Try.prog 27 #[v, .string x] w fun e w' => e = .returned (.tuple #[.int .i64 (baseV t x), .bool (baseB t x)]) ∧ Below w.heap.size w w' := by
  obtain ⟨A1, c1, A2, c2, A3, c3, rfl, h1, h2, h3⟩ := h.ex
  have hBel : Below w.heap.size w (w.alloc (.cells #[.slice A1 t.us.length c1, .slice A2 t.bs.length c2, .slice A3 t.ns.length c3] 30)) := (Below.refl _ _).alloc (Nat.le_refl _) _
  have HX := (Blk.new w 30 #[.slice A1 t.us.length c1, .slice A2 t.bs.length c2, .slice A3 t.ns.length c3])
  have hZ : (w.alloc (.cells #[.slice A1 t.us.length c1, .slice A2 t.bs.length c2, .slice A3 t.ns.length c3] 30)).heap.size = w.heap.size + 1 := by simp
  have HT := Lib.hid (h.below hBel (Nat.le_refl _))
  replace HX := Lib.hid HX
  replace hBel := Lib.hid hBel
  replace hZ := Lib.hid hZ
  have hu := hf.ns
  have HF := Lib.hid hf
  have HS := Lib.hid (fun k => base_at (t := t) (x := x) (k := k))
  have HN := Lib.hid (base_no (t := t) (x := x))
  have H1 := Lib.hid (h3.below hBel.out (Nat.le_refl _))
  clear h h1 h2 h3 hf
  go_enter Try.func27, Try.ntmps27
  go_wp2
  generalize w.alloc (.cells #[.slice A1 t.us.length c1, .slice A2 t.bs.length c2, .slice A3 t.ns.length c3] 30) = W at *
  go_loopw [6] (fun i wr => ∃ k : Nat, k ≤ t.ns.length ∧ i = .int .i64 k ∧ noneTo t.ns x k ∧ Below W.heap.size W wr) (fun i _ => t.ns.length - (intOf i).toNat)
  case atStart => exact ⟨0, Nat.zero_le _, rfl, fun i hi => absurd hi (by omega), Below.refl _ _⟩
  case round =>
    obtain ⟨k, hk, rfl, hn, hb⟩ := hrel
    have hX := HX.out.below hb (by have := hZ.out; omega)
    have x0 : wr.cell? ⟨w.heap.size, 0, none⟩ = some (.slice A1 t.us.length c1) := hX.cell 0
    have x1 : wr.cell? ⟨w.heap.size, 1, none⟩ = some (.slice A2 t.bs.length c2) := hX.cell 1
    have x2 : wr.cell? ⟨w.heap.size, 2, none⟩ = some (.slice A3 t.ns.length c3) := hX.cell 2
    have hB := hBel.out.trans (hb.mono (by have := hZ.out; omega))
    replace hB := Lib.hid hB
    by_cases hlt : k < t.ns.length
    · have hT := specTongueOk_any _ t wr (HT.out.below hb (Nat.le_refl _)) HF.out
      have HSk := Lib.hid (fun ho e => HS.out k ho hlt hn e)
      have HNk := Lib.hid (none_go hn)
      have S1 := Lib.hid (H1.out.below hb (Nat.le_refl _))
      replace hb := Lib.hid hb
      replace hX := Lib.hid hX
      clear hn
      go_wp2_with (fail)
      refine hT.mono ?_
      rintro e w2 ⟨rfl, hb2⟩
      clear hT x0 x1 x2
      have hB2 := hB.out.trans (hb2.mono hB.out.size)
      have hb2' := hb.out.trans (hb2.mono hb.out.size)
      have x0 : w2.cell? ⟨w.heap.size, 2, none⟩ = some (.slice A3 t.ns.length c3) := (hX.out.below hb2 hX.out.lt).cell 2
      replace S1 := S1.out.below hb2 (Nat.le_refl _)
      clear hb2
      replace hB2 := Lib.hid hB2
      replace hb2' := Lib.hid hb2'
      cases hok : t.ok
      · have HO := Lib.hid (HN.out (.inl hok))
        clear S1
        go_wp2
        go_ret2
        exact ⟨two_ret HO.out.2.symm HO.out.1.symm, hB2.out⟩
      · obtain ⟨b, o, rfl, hbo, hc⟩ := S1.at_ (by omega)
        have ck := hc k hlt
        have HSk' := HSk.out hok
        have HNk' := HNk.out
        generalize t.ns.getD k ByteArray.empty = y at *
        clear hc S1
        by_cases e : y = x
        · have he : (y.toList == x.toList) = true := by rw [str_eq]; exact decide_eq_true e
          have HO := Lib.hid (HSk' e)
          clear HSk' HNk'
          replace e := Lib.hid e
          go_wp2
          go_ret2
          exact ⟨two_ret HO.out.2.symm HO.out.1.symm, hB2.out⟩
        · have he : (y.toList == x.toList) = false := by rw [str_eq]; exact decide_eq_false e
          have HO := Lib.hid (HNk' e)
          clear HSk' HNk'
          replace e := Lib.hid e
          go_wp2
          go_roundw
          case rel => exact ⟨k+1, by omega, by go_num, HO.out, hb2'.out⟩
          case measure => simp [intOf]; omega
    · obtain rfl : k = t.ns.length := by omega
      have HO := Lib.hid (HN.out (.inr hn))
      clear hn hb hX x1 x0
      go_wp2
      go_ret2
      exact ⟨two_ret HO.out.2.symm HO.out.1.symm, hB.out⟩
end Go.Proofs.Ytdmldgikfjgmhaa
